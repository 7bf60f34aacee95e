/-
  For every slice of bytes the law FnOrderSame returns true, and the slice reads behind the call as it read before. No condition.
-/
import Derived.Test.YtamfnahbhhmiiaaOrdPXo1
import Derived.Test.YtamfnahbhhmiiaaGui3o1
import Derived.Test.YtamfnahbhhmiiaaOrdKo1
import Derived.Test.YtamfnahbhhmiiaaGui4o1
import Derived.Test.YtamfnahbhhmiiaaOrdABo1
import Derived.Test.YtamfnahbhhmiiaaDrawQo1
import Derived.Test.YtamfnahbhhmiiaaWideAo1
import Derived.Test.YtamfnahbhhmiiaaIso1
import Derived.Test.YtamfnahbhhmiiaaDrawo1
import Derived.Test.YtamfnahbhhmiiaaLawso1

/-
  Plans that are cut and their orders: rooms ahead of an upright cut are left of those behind it, rooms ahead of a level one above them. (Plain mathematics.)
-/
namespace Go.Proofs.Ytamfnahbhhmiiaa

/-- a room with a cell in a rectangle -/
def Rc.In (R : Rc) (g : Nat → Nat → Nat) (a : Nat) : Prop := ∃ i j, R.has i j ∧ g i j = a
/-- a rectangle in which all stays that lies between two of its rooms -/
def Rc.Conv (R : Rc) (h wd : Nat) (g : Nat → Nat → Nat) : Prop :=
  ∀ a b x, R.In g a → R.In g b → (∃ i j, i < h ∧ j < wd ∧ g i j = x) → (LL h wd g a x ∧ LL h wd g x b ∨ AA h wd g a x ∧ AA h wd g x b) → R.In g x
theorem Rc.Clo.cell {R : Rc} {g : Nat → Nat → Nat} {h wd : Nat} (C : R.Clo g h wd) {a i j : Nat} (ha : R.In g a) (hi : i < h) (hj : j < wd) (e : g i j = a) : R.has i j := by
  obtain ⟨x, y, hxy, rfl⟩ := ha
  exact C.clo x y i j hxy hi hj e
theorem in_left {R : Rc} {g : Nat → Nat → Nat} {h wd : Nat} (hr : RectG h wd g) (C : R.Clo g h wd) {c : Nat × Nat} (hi : R.ins c = true) (hf : R.free g c = true) {i j : Nat} (hij : R.has i j) : (R.left c).In g (g i j) ↔ (if c.1 = 0 then j else i) < c.2 := by
  constructor
  · rintro ⟨x, y, hxy, e⟩
    rcases Nat.lt_or_ge (if c.1 = 0 then j else i) c.2 with h1 | h1
    · exact h1
    · exact absurd e.symm (free_two hr C hi hf hxy ((Rc.right_has hi).2 ⟨hij, h1⟩))
  · intro h1
    exact ⟨i, j, (Rc.left_has hi).2 ⟨hij, h1⟩, rfl⟩
theorem in_right {R : Rc} {g : Nat → Nat → Nat} {h wd : Nat} (hr : RectG h wd g) (C : R.Clo g h wd) {c : Nat × Nat} (hi : R.ins c = true) (hf : R.free g c = true) {i j : Nat} (hij : R.has i j) : (R.right c).In g (g i j) ↔ c.2 ≤ (if c.1 = 0 then j else i) := by
  constructor
  · rintro ⟨x, y, hxy, e⟩
    rcases Nat.lt_or_ge (if c.1 = 0 then j else i) c.2 with h1 | h1
    · exact absurd e (free_two hr C hi hf ((Rc.left_has hi).2 ⟨hij, h1⟩) hxy)
    · exact h1
  · intro h1
    exact ⟨i, j, (Rc.right_has hi).2 ⟨hij, h1⟩, rfl⟩
theorem Rc.left_in {R : Rc} {g : Nat → Nat → Nat} {c : Nat × Nat} (hi : R.ins c = true) {a : Nat} (ha : (R.left c).In g a) : R.In g a := by
  obtain ⟨i, j, hij, e⟩ := ha
  exact ⟨i, j, ((Rc.left_has hi).1 hij).1, e⟩
theorem Rc.right_in {R : Rc} {g : Nat → Nat → Nat} {c : Nat × Nat} (hi : R.ins c = true) {a : Nat} (ha : (R.right c).In g a) : R.In g a := by
  obtain ⟨i, j, hij, e⟩ := ha
  exact ⟨i, j, ((Rc.right_has hi).1 hij).1, e⟩
theorem Rc.in_cell {R : Rc} {g : Nat → Nat → Nat} {h wd : Nat} (C : R.Clo g h wd) {a : Nat} (ha : R.In g a) : ∃ i j, i < h ∧ j < wd ∧ g i j = a := by
  obtain ⟨i, j, hij, e⟩ := ha
  obtain ⟨h1, h2⟩ := C.in_grid hij
  exact ⟨i, j, h1, h2, e⟩

/-- orders along upright lines stay on their side of upright cuts -/
theorem step_up {R : Rc} {g : Nat → Nat → Nat} {h wd : Nat} (hr : RectG h wd g) (nx : NoX h wd g) (C : R.Clo g h wd) {c : Nat × Nat} (h0 : c.1 = 0) (hi : R.ins c = true) (hf : R.free g c = true) {z y : Nat} (hz : R.In g z) (hy : R.In g y) (hj : JA h wd g z y) : (R.left c).In g z ↔ (R.left c).In g y := by
  obtain ⟨k, s, t, k1, kh, hs, ht, hall, rfl, rfl⟩ := hj
  have cz := C.cell hz (i := k - 1) (j := s) (by omega) (by omega) rfl
  have cy := C.cell hy (i := k) (j := t) (by omega) (by omega) rfl
  rw [in_left hr C hi hf cz, in_left hr C hi hf cy, if_pos h0, if_pos h0]
  rw [Rc.free_up h0] at hf
  rw [Rc.ins_up h0] at hi
  obtain ⟨z1, z2, z3, z4⟩ := cz
  obtain ⟨y1, y2, y3, y4⟩ := cy
  constructor
  · intro hlt
    apply Classical.byContradiction
    intro hn
    exact nx k c.2 (by omega) (by omega) (by omega) (by omega) ⟨hf (k - 1) (by omega) (by omega), hf k (by omega) (by omega), hall (c.2 - 1) (by omega), hall c.2 (by omega)⟩
  · intro hlt
    apply Classical.byContradiction
    intro hn
    exact nx k c.2 (by omega) (by omega) (by omega) (by omega) ⟨hf (k - 1) (by omega) (by omega), hf k (by omega) (by omega), hall (c.2 - 1) (by omega), hall c.2 (by omega)⟩
theorem side_up {R : Rc} {g : Nat → Nat → Nat} {h wd : Nat} (hr : RectG h wd g) (nx : NoX h wd g) (C : R.Clo g h wd) (V : R.Conv h wd g) {c : Nat × Nat} (h0 : c.1 = 0) (hi : R.ins c = true) (hf : R.free g c = true) {a b : Nat} (ha : R.In g a) (hab : AA h wd g a b) : R.In g b → ((R.left c).In g a ↔ (R.left c).In g b) := by
  induction hab with
  | single hj => exact fun hb => step_up hr nx C h0 hi hf ha hb hj
  | @tail x y h1 hj ih =>
    intro hb
    have hx : R.In g x := V _ _ x ha hb (by obtain ⟨k, s, t, k1, kh, hs, ht, _, e, _⟩ := hj; exact ⟨k - 1, s, by omega, hs, e⟩) (.inr ⟨h1, .single hj⟩)
    rw [ih hx]
    exact step_up hr nx C h0 hi hf hx hb hj
theorem conv_left_up {R : Rc} {g : Nat → Nat → Nat} {h wd : Nat} (hr : RectG h wd g) (nx : NoX h wd g) (C : R.Clo g h wd) (V : R.Conv h wd g) {c : Nat × Nat} (h0 : c.1 = 0) (hi : R.ins c = true) (hf : R.free g c = true) : (R.left c).Conv h wd g ∧ (R.right c).Conv h wd g := by
  constructor
  · intro a b x ha hb hx hl
    have xin := V a b x (Rc.left_in hi ha) (Rc.left_in hi hb) hx hl
    obtain ⟨i, j, hij, rfl⟩ := xin
    obtain ⟨g1, g2⟩ := C.in_grid hij
    rcases hl with ⟨l1, l2⟩ | ⟨l1, l2⟩
    · -- along the way of the cut: by places
      obtain ⟨x, y, hxy, rfl⟩ := hb
      have hxy2 := (Rc.left_has hi).1 hxy
      obtain ⟨b1, b2⟩ := C.in_grid hxy2.1
      have := left_cols hr nx g1 g2 b1 b2 l2
      rw [in_left hr C hi hf hij, if_pos h0]
      have := hxy2.2
      rw [if_pos h0] at this
      omega
    · -- across it: on one side
      exact (side_up hr nx C V h0 hi hf (Rc.left_in hi ha) l1 ⟨i, j, hij, rfl⟩).1 ha
  · intro a b x ha hb hx hl
    have xin := V a b x (Rc.right_in hi ha) (Rc.right_in hi hb) hx hl
    obtain ⟨i, j, hij, rfl⟩ := xin
    obtain ⟨g1, g2⟩ := C.in_grid hij
    rcases hl with ⟨l1, l2⟩ | ⟨l1, l2⟩
    · obtain ⟨x, y, hxy, rfl⟩ := ha
      have hxy2 := (Rc.right_has hi).1 hxy
      obtain ⟨b1, b2⟩ := C.in_grid hxy2.1
      have := left_cols hr nx b1 b2 g1 g2 l1
      rw [in_right hr C hi hf hij, if_pos h0]
      have := hxy2.2
      rw [if_pos h0] at this
      omega
    · have e := side_up hr nx C V h0 hi hf (Rc.right_in hi ha) l1 ⟨i, j, hij, rfl⟩
      obtain ⟨x, y, hxy, rfl⟩ := ha
      have hxy2 := (Rc.right_has hi).1 hxy
      rw [in_right hr C hi hf hij]
      rw [in_left hr C hi hf hij, in_left hr C hi hf hxy2.1] at e
      have := hxy2.2
      omega

/-- orders along level lines stay on their side of level cuts -/
theorem step_lv {R : Rc} {g : Nat → Nat → Nat} {h wd : Nat} (hr : RectG h wd g) (nx : NoX h wd g) (C : R.Clo g h wd) {c : Nat × Nat} (h0 : ¬ c.1 = 0) (hi : R.ins c = true) (hf : R.free g c = true) {z y : Nat} (hz : R.In g z) (hy : R.In g y) (hj : JL h wd g z y) : (R.left c).In g z ↔ (R.left c).In g y := by
  obtain ⟨k, s, t, k1, kh, hs, ht, hall, rfl, rfl⟩ := hj
  have cz := C.cell hz (i := s) (j := k - 1) (by omega) (by omega) rfl
  have cy := C.cell hy (i := t) (j := k) (by omega) (by omega) rfl
  rw [in_left hr C hi hf cz, in_left hr C hi hf cy, if_neg h0, if_neg h0]
  rw [Rc.free_lv h0] at hf
  rw [Rc.ins_lv h0] at hi
  obtain ⟨z1, z2, z3, z4⟩ := cz
  obtain ⟨y1, y2, y3, y4⟩ := cy
  constructor
  · intro hlt
    apply Classical.byContradiction
    intro hn
    exact nx c.2 k (by omega) (by omega) (by omega) (by omega) ⟨hall (c.2 - 1) (by omega), hall c.2 (by omega), hf (k - 1) (by omega) (by omega), hf k (by omega) (by omega)⟩
  · intro hlt
    apply Classical.byContradiction
    intro hn
    exact nx c.2 k (by omega) (by omega) (by omega) (by omega) ⟨hall (c.2 - 1) (by omega), hall c.2 (by omega), hf (k - 1) (by omega) (by omega), hf k (by omega) (by omega)⟩
theorem side_lv {R : Rc} {g : Nat → Nat → Nat} {h wd : Nat} (hr : RectG h wd g) (nx : NoX h wd g) (C : R.Clo g h wd) (V : R.Conv h wd g) {c : Nat × Nat} (h0 : ¬ c.1 = 0) (hi : R.ins c = true) (hf : R.free g c = true) {a b : Nat} (ha : R.In g a) (hab : LL h wd g a b) : R.In g b → ((R.left c).In g a ↔ (R.left c).In g b) := by
  induction hab with
  | single hj => exact fun hb => step_lv hr nx C h0 hi hf ha hb hj
  | @tail x y h1 hj ih =>
    intro hb
    have hx : R.In g x := V _ _ x ha hb (by obtain ⟨k, s, t, k1, kh, hs, ht, _, e, _⟩ := hj; exact ⟨s, k - 1, hs, by omega, e⟩) (.inl ⟨h1, .single hj⟩)
    rw [ih hx]
    exact step_lv hr nx C h0 hi hf hx hb hj
theorem conv_left_lv {R : Rc} {g : Nat → Nat → Nat} {h wd : Nat} (hr : RectG h wd g) (nx : NoX h wd g) (C : R.Clo g h wd) (V : R.Conv h wd g) {c : Nat × Nat} (h0 : ¬ c.1 = 0) (hi : R.ins c = true) (hf : R.free g c = true) : (R.left c).Conv h wd g ∧ (R.right c).Conv h wd g := by
  constructor
  · intro a b x ha hb hx hl
    have xin := V a b x (Rc.left_in hi ha) (Rc.left_in hi hb) hx hl
    obtain ⟨i, j, hij, rfl⟩ := xin
    obtain ⟨g1, g2⟩ := C.in_grid hij
    rcases hl with ⟨l1, l2⟩ | ⟨l1, l2⟩
    · -- across it: on one side
      exact (side_lv hr nx C V h0 hi hf (Rc.left_in hi ha) l1 ⟨i, j, hij, rfl⟩).1 ha
    · -- along the way of the cut: by places
      obtain ⟨x, y, hxy, rfl⟩ := hb
      have hxy2 := (Rc.left_has hi).1 hxy
      obtain ⟨b1, b2⟩ := C.in_grid hxy2.1
      have := above_rows hr nx g1 g2 b1 b2 l2
      rw [in_left hr C hi hf hij, if_neg h0]
      have := hxy2.2
      rw [if_neg h0] at this
      omega
  · intro a b x ha hb hx hl
    have xin := V a b x (Rc.right_in hi ha) (Rc.right_in hi hb) hx hl
    obtain ⟨i, j, hij, rfl⟩ := xin
    obtain ⟨g1, g2⟩ := C.in_grid hij
    rcases hl with ⟨l1, l2⟩ | ⟨l1, l2⟩
    · have e := side_lv hr nx C V h0 hi hf (Rc.right_in hi ha) l1 ⟨i, j, hij, rfl⟩
      obtain ⟨x, y, hxy, rfl⟩ := ha
      have hxy2 := (Rc.right_has hi).1 hxy
      rw [in_right hr C hi hf hij]
      rw [in_left hr C hi hf hij, in_left hr C hi hf hxy2.1] at e
      have := hxy2.2
      omega
    · obtain ⟨x, y, hxy, rfl⟩ := ha
      have hxy2 := (Rc.right_has hi).1 hxy
      obtain ⟨b1, b2⟩ := C.in_grid hxy2.1
      have := above_rows hr nx b1 b2 g1 g2 l1
      rw [in_right hr C hi hf hij, if_neg h0]
      have := hxy2.2
      rw [if_neg h0] at this
      omega

theorem Rc.Conv.parts {R : Rc} {g : Nat → Nat → Nat} {h wd : Nat} (hr : RectG h wd g) (nx : NoX h wd g) (C : R.Clo g h wd) (V : R.Conv h wd g) {c : Nat × Nat} (hi : R.ins c = true) (hf : R.free g c = true) : (R.left c).Conv h wd g ∧ (R.right c).Conv h wd g := by
  by_cases h0 : c.1 = 0
  · exact conv_left_up hr nx C V h0 hi hf
  · exact conv_left_lv hr nx C V h0 hi hf
/-- the rooms of both sides of a cut -/
theorem cut_orders {R : Rc} {g : Nat → Nat → Nat} {h wd : Nat} (hr : RectG h wd g) (nx : NoX h wd g) (hsome : ∀ a b, (∃ i j, i < h ∧ j < wd ∧ g i j = a) → (∃ i j, i < h ∧ j < wd ∧ g i j = b) → a ≠ b → LL h wd g a b ∨ LL h wd g b a ∨ AA h wd g a b ∨ AA h wd g b a)
    (C : R.Clo g h wd) (V : R.Conv h wd g) {c : Nat × Nat} (hi : R.ins c = true) (hf : R.free g c = true) {a b : Nat} (ha : (R.left c).In g a) (hb : (R.right c).In g b) : if c.1 = 0 then LL h wd g a b else AA h wd g a b := by
  have ia := Rc.left_in hi ha
  have ib := Rc.right_in hi hb
  obtain ⟨i, j, hij, rfl⟩ := ha
  obtain ⟨x, y, hxy, rfl⟩ := hb
  have hij2 := (Rc.left_has hi).1 hij
  have hxy2 := (Rc.right_has hi).1 hxy
  obtain ⟨a1, a2⟩ := C.in_grid hij2.1
  obtain ⟨b1, b2⟩ := C.in_grid hxy2.1
  have hne : g i j ≠ g x y := fun e => free_two hr C hi hf hij hxy e.symm
  have la : (R.left c).In g (g i j) := ⟨i, j, hij, rfl⟩
  have lb : ¬ (R.left c).In g (g x y) := by
    rw [in_left hr C hi hf hxy2.1]; have := hxy2.2; omega
  by_cases h0 : c.1 = 0
  · rw [if_pos h0]
    have p1 := hij2.2; have p2 := hxy2.2
    rw [if_pos h0] at p1 p2
    rcases hsome _ _ ⟨i, j, a1, a2, rfl⟩ ⟨x, y, b1, b2, rfl⟩ hne with k | k | k | k
    · exact k
    · have := left_cols hr nx b1 b2 a1 a2 k; omega
    · exact absurd ((side_up hr nx C V h0 hi hf ia k ib).1 la) lb
    · exact absurd ((side_up hr nx C V h0 hi hf ib k ia).2 la) lb
  · rw [if_neg h0]
    have p1 := hij2.2; have p2 := hxy2.2
    rw [if_neg h0] at p1 p2
    rcases hsome _ _ ⟨i, j, a1, a2, rfl⟩ ⟨x, y, b1, b2, rfl⟩ hne with k | k | k | k
    · exact absurd ((side_lv hr nx C V h0 hi hf ia k ib).1 la) lb
    · exact absurd ((side_lv hr nx C V h0 hi hf ib k ia).2 la) lb
    · exact k
    · have := above_rows hr nx b1 b2 a1 a2 k; omega
end Go.Proofs.Ytamfnahbhhmiiaa

/-
  Plans with the same permutation: the same orders, and cuttable both or neither. (Plain mathematics.)
-/
namespace Go.Proofs.Ytamfnahbhhmiiaa

theorem intsL_inj {S T : List Nat} (h : intsL S = intsL T) : S = T := by
  have h1 := congrArg (List.map Int.toNat) h
  unfold intsL at h1
  simpa [Function.comp_def] using h1
/-! ## the same permutation, the same orders -/
theorem same_rooms {p q : List ByteArray} (h : plainB p = true) (hq : plainB q = true) (e : permL p = permL q) : ∃ σ, SamR p q σ := by
  have L1 := first_lin h; have L2 := second_lin h
  have M1 := first_lin hq; have M2 := second_lin hq
  have hr : gridR q = gridR p := by
    have := congrArg List.length e
    rw [permL_yes h, permL_yes hq, permQ_len, permQ_len] at this
    exact this.symm
  rw [permL_yes h, permL_yes hq, hr] at e
  rw [hr] at M1 M2
  have p2 : ∀ a, a < gridR p → placeN (secondQ (pL q)) (gridR p) ((lineN (secondQ (pL q)) (gridR p) (gridR p)).getD (placeN (secondQ (pL p)) (gridR p) a) 0) = placeN (secondQ (pL p)) (gridR p) a ∧ (lineN (secondQ (pL q)) (gridR p) (gridR p)).getD (placeN (secondQ (pL p)) (gridR p) a) 0 < gridR p := fun a ha => M2.back (L2.lt ha)
  have p1 : ∀ a, a < gridR p → placeN (firstQ (pL q)) (gridR p) ((lineN (secondQ (pL q)) (gridR p) (gridR p)).getD (placeN (secondQ (pL p)) (gridR p) a) 0) = placeN (firstQ (pL p)) (gridR p) a := fun a ha => by
    have k1 := permQ_place (q1 := firstQ (pL p)) L2 ha
    have k2 := permQ_place (q1 := firstQ (pL q)) M2 (p2 a ha).2
    rw [(p2 a ha).1, ← e, k1] at k2
    exact k2.symm
  have inj : ∀ a b, a < gridR p → b < gridR p → (lineN (secondQ (pL q)) (gridR p) (gridR p)).getD (placeN (secondQ (pL p)) (gridR p) a) 0 = (lineN (secondQ (pL q)) (gridR p) (gridR p)).getD (placeN (secondQ (pL p)) (gridR p) b) 0 → a = b := fun a b ha hb e => by
    refine L2.inj ha hb ?_
    rw [← (p2 a ha).1, ← (p2 b hb).1, e]
  have hq' : ∀ a b, a < gridR p → b < gridR p → pL q 0 a b = (firstQ (pL q) a b && secondQ (pL q) a b) ∧ pL q 1 b a = (firstQ (pL q) b a && secondQ (pL q) a b) := fun a b ha hb => firstQ_not hq (by omega) (by omega)
  refine ⟨fun a => (lineN (secondQ (pL q)) (gridR p) (gridR p)).getD (placeN (secondQ (pL p)) (gridR p) a) 0, hr, fun a ha => (p2 a ha).2, inj, fun b hb => ?_, fun a b ha hb => ?_, fun a b ha hb => ?_⟩
  · obtain ⟨a, ha, ea⟩ := L2.surj (M2.lt hb)
    exact ⟨a, ha, by show (lineN (secondQ (pL q)) (gridR p) (gridR p)).getD (placeN (secondQ (pL p)) (gridR p) a) 0 = b; rw [ea]; exact M2.line hb⟩
  · rw [(hq' _ _ (p2 a ha).2 (p2 b hb).2).1, (firstQ_not h ha hb).1, M1.place_iff (p2 a ha).2 (p2 b hb).2, M2.place_iff (p2 a ha).2 (p2 b hb).2, L1.place_iff ha hb, L2.place_iff ha hb, p1 a ha, p1 b hb, (p2 a ha).1, (p2 b hb).1]
  · rw [(hq' _ _ (p2 b hb).2 (p2 a ha).2).2, (firstQ_not h hb ha).2, M1.place_iff (p2 a ha).2 (p2 b hb).2, M2.place_iff (p2 b hb).2 (p2 a ha).2, L1.place_iff ha hb, L2.place_iff hb ha, p1 a ha, p1 b hb, (p2 a ha).1, (p2 b hb).1]

/-! ## plans turned -/
def TuG (h wd : Nat) (g g' : Nat → Nat → Nat) (τ : Nat → Nat) : Prop := ∀ i j, i < h → j < wd → τ (g i j) = g' j (h - 1 - i)
def TuI (h wd : Nat) (g g' : Nat → Nat → Nat) : Prop := ∀ i j i' j', i < h → j < wd → i' < h → j' < wd → (g i j = g i' j' ↔ g' j (h - 1 - i) = g' j' (h - 1 - i'))
theorem tu_JL {h wd : Nat} {g g' : Nat → Nat → Nat} {τ : Nat → Nat} (T : TuG h wd g g' τ) (I : TuI h wd g g') {a b : Nat} (hj : JL h wd g a b) : JA wd h g' (τ a) (τ b) := by
  obtain ⟨k, s, t, k1, kw, hs, ht, hall, rfl, rfl⟩ := hj
  refine ⟨k, h - 1 - s, h - 1 - t, k1, kw, by omega, by omega, fun j hj e => ?_, (T s (k - 1) hs (by omega)).symm, (T t k ht kw).symm⟩
  have hjh : j < h := by omega
  refine hall (h - 1 - j) (by omega) ((I (h - 1 - j) (k - 1) (h - 1 - j) k (by omega) (by omega) (by omega) kw).2 ?_)
  rw [show h - 1 - (h - 1 - j) = j by omega]; exact e
theorem tu_JA {h wd : Nat} {g g' : Nat → Nat → Nat} {τ : Nat → Nat} (T : TuG h wd g g' τ) (I : TuI h wd g g') {a b : Nat} (hj : JA h wd g a b) : JL wd h g' (τ b) (τ a) := by
  obtain ⟨k, s, t, k1, kh, hs, ht, hall, rfl, rfl⟩ := hj
  refine ⟨h - k, t, s, by omega, by omega, ht, hs, fun j hj e => ?_, ?_, ?_⟩
  · have hjw : j < wd := by omega
    refine hall j (by omega) ((I (k - 1) j k j (by omega) hjw kh hjw).2 ?_)
    rw [show h - 1 - (k - 1) = h - k by omega, show h - 1 - k = h - k - 1 by omega]; exact e.symm
  · rw [T k t kh ht, show h - 1 - k = h - k - 1 by omega]
  · rw [T (k - 1) s (by omega) hs, show h - 1 - (k - 1) = h - k by omega]
theorem rooms_eq {r r' : Nat} {τ : Nat → Nat} (tlt : ∀ a, a < r → τ a < r') (inj : ∀ a b, a < r → b < r → τ a = τ b → a = b) (onto : ∀ b, b < r' → ∃ a, a < r ∧ τ a = b) : r' = r := by
  apply Nat.le_antisymm
  · obtain ⟨σ, hσ⟩ : ∃ σ : Nat → Nat, ∀ b, b < r' → σ b < r ∧ τ (σ b) = b := by
      have : ∀ b, ∃ a, b < r' → a < r ∧ τ a = b := fun b => by
        by_cases hb : b < r'
        · obtain ⟨a, ha⟩ := onto b hb; exact ⟨a, fun _ => ha⟩
        · exact ⟨0, fun h => absurd h hb⟩
      exact Classical.axiomOfChoice this
    have := nodup_lt r ((List.range r').map σ) (by
      unfold List.Nodup
      rw [List.pairwise_map]
      refine List.Pairwise.imp_of_mem ?_ List.pairwise_lt_range
      intro a b ha hb hab e
      have h1 := (hσ a (List.mem_range.1 ha)).2; have h2 := (hσ b (List.mem_range.1 hb)).2
      rw [e] at h1; omega) (fun z hz => by
      obtain ⟨a, ha, rfl⟩ := List.mem_map.1 hz
      exact (hσ a (List.mem_range.1 ha)).1)
    simpa using this
  · have := nodup_lt r' ((List.range r).map τ) (by
      unfold List.Nodup
      rw [List.pairwise_map]
      refine List.Pairwise.imp_of_mem ?_ List.pairwise_lt_range
      intro a b ha hb hab e
      have := inj a b (List.mem_range.1 ha) (List.mem_range.1 hb) e
      omega) (fun z hz => by
      obtain ⟨a, ha, rfl⟩ := List.mem_map.1 hz
      exact tlt a (List.mem_range.1 ha))
    simpa using this
theorem plain_turn {p : List ByteArray} (h : plainB p = true) : plainB (namesB (turnB p)) = true := by
  have hp := plainB_plan h
  rw [plain_is (Is.turn (Is.self hp)).plan, cross_turn hp, ← plain_is hp, h]
/-- rooms of a plan and those of the plan turned -/
structure TurR (p q : List ByteArray) (τ : Nat → Nat) : Prop where
  rooms : gridR q = gridR p
  lt : ∀ a, a < gridR p → τ a < gridR p
  inj : ∀ a b, a < gridR p → b < gridR p → τ a = τ b → a = b
  onto : ∀ b, b < gridR p → ∃ a, a < gridR p ∧ τ a = b
  left : ∀ a b, a < gridR p → b < gridR p → pL q 0 (τ a) (τ b) = pL p 1 b a
  above : ∀ a b, a < gridR p → b < gridR p → pL q 1 (τ a) (τ b) = pL p 0 a b
theorem turn_rooms {p : List ByteArray} (h : plainB p = true) : ∃ τ, TurR p (namesB (turnB p)) τ := by
  have hp := plainB_plan h
  have hq := plain_turn h
  have x := Is.turn (Is.self hp)
  have hl := x.len; have hw := x.wide
  generalize namesB (turnB p) = q at *
  have I : TuI p.length (wideB p) (gridG p) (gridG q) := fun i j i' j' hi hj hi' hj' => by
    have := x.same j' (p.length - 1 - i') j (p.length - 1 - i) hj' (by omega) hj (by omega)
    rw [show p.length - 1 - (p.length - 1 - i) = i by omega, show p.length - 1 - (p.length - 1 - i') = i' by omega] at this
    exact this.symm
  obtain ⟨τ, T⟩ : ∃ τ, TuG p.length (wideB p) (gridG p) (gridG q) τ := by
    have : ∀ a, ∃ t, ∀ i j, i < p.length → j < wideB p → gridG p i j = a → t = gridG q j (p.length - 1 - i) := fun a => by
      by_cases y : ∃ i j, i < p.length ∧ j < wideB p ∧ gridG p i j = a
      · obtain ⟨i, j, h1, h2, e⟩ := y
        exact ⟨gridG q j (p.length - 1 - i), fun i' j' h3 h4 e' => (I i j i' j' h1 h2 h3 h4).1 (by rw [e, e'])⟩
      · exact ⟨0, fun i j h1 h2 e => absurd ⟨i, j, h1, h2, e⟩ y⟩
    obtain ⟨τ, T⟩ := Classical.axiomOfChoice this
    exact ⟨τ, fun i j h1 h2 => T _ i j h1 h2 rfl⟩
  have tlt : ∀ a, a < gridR p → τ a < gridR q := fun a ha => by
    obtain ⟨i, j, h1, h2, rfl⟩ := room_at ha
    rw [T i j h1 h2]; exact gridG_lt (by omega) (by omega)
  have inj : ∀ a b, a < gridR p → b < gridR p → τ a = τ b → a = b := fun a b ha hb e => by
    obtain ⟨i, j, h1, h2, rfl⟩ := room_at ha
    obtain ⟨i', j', h3, h4, rfl⟩ := room_at hb
    rw [T i j h1 h2, T i' j' h3 h4] at e
    exact (I i j i' j' h1 h2 h3 h4).2 e
  have onto : ∀ b, b < gridR q → ∃ a, a < gridR p ∧ τ a = b := fun b hb => by
    obtain ⟨i, j, h1, h2, rfl⟩ := room_at hb
    have hj : p.length - 1 - j < p.length := by omega
    refine ⟨gridG p (p.length - 1 - j) i, gridG_lt hj (by omega), ?_⟩
    rw [T _ _ hj (by omega), show p.length - 1 - (p.length - 1 - j) = j by omega]
  have rm := rooms_eq tlt inj onto
  have f0 : ∀ a b, pL p 0 a b = true → pL q 1 (τ a) (τ b) = true := fun a b k => by
    rw [pL_left] at k
    rw [pL_above, hl, hw]
    exact trans_map (fun _ _ z => tu_JL T I z) k
  have f1 : ∀ a b, pL p 1 a b = true → pL q 0 (τ b) (τ a) = true := fun a b k => by
    rw [pL_above] at k
    rw [pL_left, hl, hw]
    have k2 := trans_map (R' := fun x y => JL (wideB p) p.length (gridG q) y x) (fun _ _ z => tu_JA T I z) k
    exact trans_swap k2
  refine ⟨τ, rm, fun a ha => rm ▸ tlt a ha, inj, fun b hb => onto b (by omega), fun a b ha hb => ?_, fun a b ha hb => ?_⟩
  · by_cases e : a = b
    · subst e; rw [pL_self hq (tlt a ha) 0 (by omega), pL_self h ha 1 (by omega)]
    · rcases pL_some hp ha hb e with k | k | k | k
      · rw [(pL_over hq (tlt a ha) (tlt b hb) (f0 a b k)).2.1, (pL_one h ha hb k).2.2]
      · rw [(pL_over hq (tlt b hb) (tlt a ha) (f0 b a k)).2.2, (pL_one h hb ha k).2.1]
      · rw [(pL_one hq (tlt b hb) (tlt a ha) (f1 a b k)).1, (pL_over h ha hb k).1]
      · rw [f1 b a k, k]
  · by_cases e : a = b
    · subst e; rw [pL_self hq (tlt a ha) 1 (by omega), pL_self h ha 0 (by omega)]
    · rcases pL_some hp ha hb e with k | k | k | k
      · rw [f0 a b k, k]
      · rw [(pL_over hq (tlt b hb) (tlt a ha) (f0 b a k)).1, (pL_one h hb ha k).1]
      · rw [(pL_one hq (tlt b hb) (tlt a ha) (f1 a b k)).2.2, (pL_over h ha hb k).2.1]
      · rw [(pL_one hq (tlt a ha) (tlt b hb) (f1 b a k)).2.1, (pL_over h hb ha k).2.2]
/-- the permutation of a plan turned is told by that of the plan -/
theorem perm_turn {p : List ByteArray} (h : plainB p = true) : (permL (namesB (turnB p))).length = gridR p ∧ ∀ j, j < gridR p → (permL p).getD j 0 < gridR p ∧ (permL (namesB (turnB p))).getD (gridR p - 1 - (permL p).getD j 0) 0 = j := by
  obtain ⟨τ, T⟩ := turn_rooms h
  have hq := plain_turn h
  have L1 := first_lin h; have L2 := second_lin h
  have M2 := second_lin hq
  rw [T.rooms] at M2
  rw [permL_yes h, permL_yes hq, T.rooms, permQ_len]
  refine ⟨rfl, fun j hj => ?_⟩
  obtain ⟨a, ha, rfl⟩ := L2.surj hj
  rw [permQ_place L2 ha]
  have e1 : placeN (firstQ (pL (namesB (turnB p)))) (gridR p) (τ a) = placeN (secondQ (pL p)) (gridR p) a := placeN_renamed T.lt T.inj T.onto (fun x y hx hy => by
    unfold firstQ secondQ; rw [T.left x y hx hy, T.above x y hx hy, Bool.or_comm]) ha
  have e2 : placeN (secondQ (pL (namesB (turnB p)))) (gridR p) (τ a) = placeN (fun x y => firstQ (pL p) y x) (gridR p) a := placeN_renamed T.lt T.inj T.onto (fun x y hx hy => by
    unfold firstQ secondQ; rw [T.left x y hx hy, T.above y x hy hx, Bool.or_comm]) ha
  have e3 := L1.place_flip ha
  refine ⟨L1.lt ha, ?_⟩
  rw [show gridR p - 1 - placeN (firstQ (pL p)) (gridR p) a = placeN (secondQ (pL (namesB (turnB p)))) (gridR p) (τ a) by rw [e2]; omega, permQ_place M2 (T.lt a ha), e1]
theorem perm_turns {p q : List ByteArray} (h : plainB p = true) (hq : plainB q = true) (e : permL p = permL q) : permL (namesB (turnB p)) = permL (namesB (turnB q)) := by
  obtain ⟨a1, a2⟩ := perm_turn h
  obtain ⟨b1, b2⟩ := perm_turn hq
  have hr : gridR q = gridR p := by
    have := congrArg List.length e
    rw [permL_yes h, permL_yes hq, permQ_len, permQ_len] at this
    exact this.symm
  rw [hr, ← e] at b2
  rw [hr] at b1
  have L1 := first_lin h; have L2 := second_lin h
  refine List.ext_getElem (by rw [a1, b1]) fun i h1 h2 => ?_
  have hi : i < gridR p := by omega
  obtain ⟨a, ha, ea⟩ := L1.surj (show gridR p - 1 - i < gridR p by omega)
  have hx : (permL p).getD (placeN (secondQ (pL p)) (gridR p) a) 0 = gridR p - 1 - i := by rw [permL_yes h, permQ_place L2 ha, ea]
  have k1 := (a2 _ (L2.lt ha)).2
  have k2 := (b2 _ (L2.lt ha)).2
  rw [hx, show gridR p - 1 - (gridR p - 1 - i) = i by omega] at k1 k2
  rw [List.getD_eq_getElem?_getD, List.getElem?_eq_getElem h1, Option.getD_some] at k1
  rw [List.getD_eq_getElem?_getD, List.getElem?_eq_getElem h2, Option.getD_some] at k2
  rw [k1, k2]

/-- rooms that are all left of the others are parted by a line -/
theorem split_up {g : Nat → Nat → Nat} {h wd : Nat} (hr : RectG h wd g) (nx : NoX h wd g) {R : Rc} (C : R.Clo g h wd) (A : Nat → Prop) (hA : ∃ a, R.In g a ∧ A a) (hB : ∃ b, R.In g b ∧ ¬ A b)
    (hl : ∀ a b, R.In g a → R.In g b → A a → ¬ A b → LL h wd g a b) (hno : ∀ a b, R.In g a → R.In g b → LL h wd g a b → ¬ AA h wd g a b ∧ ¬ AA h wd g b a) :
    ∃ k, R.ins (0, k) = true ∧ R.free g (0, k) = true ∧ ∀ a, R.In g a → ((R.left (0, k)).In g a ↔ A a) := by
  have F := C.fit
  have f1 := F.h1; have f2 := F.w1; have f3 := F.hh; have f4 := F.hw
  have inR : ∀ {i j}, R.has i j → R.In g (g i j) := fun hij => ⟨_, _, hij, rfl⟩
  have col : ∀ j i i', i ≤ i' → R.has i j → R.has i' j → (A (g i j) ↔ A (g i' j)) := fun j i i' hii h1 h2 => by
    obtain ⟨p1, p2⟩ := C.in_grid h1
    obtain ⟨q1, q2⟩ := C.in_grid h2
    rcases col_le (h := h) (wd := wd) (g := g) (j := j) (i := i) (i' := i') p2 hii q1 with e | e
    · rw [e]
    · by_cases k1 : A (g i j)
      · by_cases k2 : A (g i' j)
        · exact ⟨fun _ => k2, fun _ => k1⟩
        · exact absurd e (hno _ _ (inR h1) (inR h2) (hl _ _ (inR h1) (inR h2) k1 k2)).1
      · by_cases k2 : A (g i' j)
        · exact absurd e (hno _ _ (inR h2) (inR h1) (hl _ _ (inR h2) (inR h1) k2 k1)).2
        · exact ⟨fun x => absurd x k1, fun x => absurd x k2⟩
  have col2 : ∀ j i i', R.has i j → R.has i' j → (A (g i j) ↔ A (g i' j)) := fun j i i' h1 h2 => by
    rcases Nat.le_total i i' with k | k
    · exact col j i i' k h1 h2
    · exact (col j i' i k h2 h1).symm
  have top : ∀ j, R.c0 ≤ j → j < R.c0 + R.w → R.has R.r0 j := fun j a b => ⟨by omega, by omega, a, b⟩
  have mono : ∀ j j', R.c0 ≤ j → j < j' → j' < R.c0 + R.w → A (g R.r0 j') → A (g R.r0 j) := fun j j' a b c x => by
    apply Classical.byContradiction
    intro hn
    have h1 := top j a (by omega)
    have h2 := top j' (by omega) c
    have k := hl _ _ (inR h2) (inR h1) x hn
    obtain ⟨p1, p2⟩ := C.in_grid h1
    obtain ⟨q1, q2⟩ := C.in_grid h2
    have := left_cols hr nx q1 q2 p1 p2 k
    omega
  obtain ⟨a, ia, kA⟩ := hA
  obtain ⟨b, ib, kB⟩ := hB
  obtain ⟨xa, ya, hxa, rfl⟩ := ia
  obtain ⟨xb, yb, hxb, rfl⟩ := ib
  have oka := hxa; have okb := hxb
  obtain ⟨u1, u2, u3, u4⟩ := hxa
  obtain ⟨v1, v2, v3, v4⟩ := hxb
  have pa : A (g R.r0 ya) := (col2 ya R.r0 xa (top _ (by omega) (by omega)) oka).2 kA
  have pb : ¬ A (g R.r0 yb) := fun x => kB ((col2 yb R.r0 xb (top _ (by omega) (by omega)) okb).1 x)
  have hab : ya < yb := by
    rcases Nat.lt_trichotomy ya yb with k | k | k
    · exact k
    · rw [k] at pa; exact absurd pa pb
    · exact absurd (mono _ _ (by omega) k (by omega) pa) pb
  -- the first line of the other kind
  have step : ∃ k, R.c0 < k ∧ k < R.c0 + R.w ∧ A (g R.r0 (k - 1)) ∧ ¬ A (g R.r0 k) := by
    apply Classical.byContradiction
    intro hn
    have : ∀ n, ya + n ≤ yb → A (g R.r0 (ya + n)) := by
      intro n
      induction n with
      | zero => intro _; exact pa
      | succ n ih =>
        intro hle
        apply Classical.byContradiction
        intro hx
        exact hn ⟨ya + (n + 1), by omega, by omega, by rw [show ya + (n + 1) - 1 = ya + n by omega]; exact ih (by omega), hx⟩
    have := this (yb - ya) (by omega)
    rw [show ya + (yb - ya) = yb by omega] at this
    exact pb this
  obtain ⟨k, q1, q2, k1, k2⟩ := step
  have kind : ∀ i j, R.has i j → (A (g i j) ↔ j < k) := fun i j hij => by
    have hij2 := hij
    obtain ⟨w1, w2, w3, w4⟩ := hij2
    rw [col2 j i R.r0 hij (top j (by omega) (by omega))]
    constructor
    · intro x
      apply Classical.byContradiction
      intro hn
      rcases Nat.lt_or_ge k j with y | y
      · exact k2 (mono k j (by omega) y (by omega) x)
      · rw [show j = k by omega] at x; exact k2 x
    · intro x
      rcases Nat.lt_or_ge j (k - 1) with y | y
      · exact mono j (k - 1) (by omega) y (by omega) k1
      · rw [show j = k - 1 by omega]; exact k1
  have hins : R.ins (0, k) = true := (Rc.ins_up rfl).2 ⟨q1, q2⟩
  have hfree : R.free g (0, k) = true := (Rc.free_up rfl).2 fun i i1 i2 e => by
    have a1 := (kind i (k - 1) ⟨i1, i2, by omega, by omega⟩).2 (by omega)
    have a2 : ¬ A (g i k) := fun x => by have := (kind i k ⟨i1, i2, by omega, by omega⟩).1 x; omega
    exact a2 (e ▸ a1)
  refine ⟨k, hins, hfree, ?_⟩
  rintro a ⟨x, y, hxy, rfl⟩
  rw [in_left hr C hins hfree hxy, kind x y hxy]; exact Iff.rfl

/-- rooms that are all above the others are parted by a line -/
theorem split_lv {g : Nat → Nat → Nat} {h wd : Nat} (hr : RectG h wd g) (nx : NoX h wd g) {R : Rc} (C : R.Clo g h wd) (A : Nat → Prop) (hA : ∃ a, R.In g a ∧ A a) (hB : ∃ b, R.In g b ∧ ¬ A b)
    (hl : ∀ a b, R.In g a → R.In g b → A a → ¬ A b → AA h wd g a b) (hno : ∀ a b, R.In g a → R.In g b → AA h wd g a b → ¬ LL h wd g a b ∧ ¬ LL h wd g b a) :
    ∃ k, R.ins (1, k) = true ∧ R.free g (1, k) = true ∧ ∀ a, R.In g a → ((R.left (1, k)).In g a ↔ A a) := by
  have F := C.fit
  have f1 := F.h1; have f2 := F.w1; have f3 := F.hh; have f4 := F.hw
  have inR : ∀ {i j}, R.has i j → R.In g (g i j) := fun hij => ⟨_, _, hij, rfl⟩
  have col : ∀ j i i', i ≤ i' → R.has j i → R.has j i' → (A (g j i) ↔ A (g j i')) := fun j i i' hii h1 h2 => by
    obtain ⟨p1, p2⟩ := C.in_grid h1
    obtain ⟨q1, q2⟩ := C.in_grid h2
    rcases row_le (h := h) (wd := wd) (g := g) (i := j) (j := i) (j' := i') p1 hii q2 with e | e
    · rw [e]
    · by_cases k1 : A (g j i)
      · by_cases k2 : A (g j i')
        · exact ⟨fun _ => k2, fun _ => k1⟩
        · exact absurd e (hno _ _ (inR h1) (inR h2) (hl _ _ (inR h1) (inR h2) k1 k2)).1
      · by_cases k2 : A (g j i')
        · exact absurd e (hno _ _ (inR h2) (inR h1) (hl _ _ (inR h2) (inR h1) k2 k1)).2
        · exact ⟨fun x => absurd x k1, fun x => absurd x k2⟩
  have col2 : ∀ j i i', R.has j i → R.has j i' → (A (g j i) ↔ A (g j i')) := fun j i i' h1 h2 => by
    rcases Nat.le_total i i' with k | k
    · exact col j i i' k h1 h2
    · exact (col j i' i k h2 h1).symm
  have top : ∀ j, R.r0 ≤ j → j < R.r0 + R.h → R.has j R.c0 := fun j a b => ⟨a, b, by omega, by omega⟩
  have mono : ∀ j j', R.r0 ≤ j → j < j' → j' < R.r0 + R.h → A (g j' R.c0) → A (g j R.c0) := fun j j' a b c x => by
    apply Classical.byContradiction
    intro hn
    have h1 := top j a (by omega)
    have h2 := top j' (by omega) c
    have k := hl _ _ (inR h2) (inR h1) x hn
    obtain ⟨p1, p2⟩ := C.in_grid h1
    obtain ⟨q1, q2⟩ := C.in_grid h2
    have := above_rows hr nx q1 q2 p1 p2 k
    omega
  obtain ⟨a, ia, kA⟩ := hA
  obtain ⟨b, ib, kB⟩ := hB
  obtain ⟨xa, ya, hxa, rfl⟩ := ia
  obtain ⟨xb, yb, hxb, rfl⟩ := ib
  have oka := hxa; have okb := hxb
  obtain ⟨u1, u2, u3, u4⟩ := hxa
  obtain ⟨v1, v2, v3, v4⟩ := hxb
  have pa : A (g xa R.c0) := (col2 xa R.c0 ya (top _ (by omega) (by omega)) oka).2 kA
  have pb : ¬ A (g xb R.c0) := fun x => kB ((col2 xb R.c0 yb (top _ (by omega) (by omega)) okb).1 x)
  have hab : xa < xb := by
    rcases Nat.lt_trichotomy xa xb with k | k | k
    · exact k
    · rw [k] at pa; exact absurd pa pb
    · exact absurd (mono _ _ (by omega) k (by omega) pa) pb
  -- the first line of the other kind
  have step : ∃ k, R.r0 < k ∧ k < R.r0 + R.h ∧ A (g (k - 1) R.c0) ∧ ¬ A (g k R.c0) := by
    apply Classical.byContradiction
    intro hn
    have : ∀ n, xa + n ≤ xb → A (g (xa + n) R.c0) := by
      intro n
      induction n with
      | zero => intro _; exact pa
      | succ n ih =>
        intro hle
        apply Classical.byContradiction
        intro hx
        exact hn ⟨xa + (n + 1), by omega, by omega, by rw [show xa + (n + 1) - 1 = xa + n by omega]; exact ih (by omega), hx⟩
    have := this (xb - xa) (by omega)
    rw [show xa + (xb - xa) = xb by omega] at this
    exact pb this
  obtain ⟨k, q1, q2, k1, k2⟩ := step
  have kind : ∀ i j, R.has j i → (A (g j i) ↔ j < k) := fun i j hij => by
    have hij2 := hij
    obtain ⟨w1, w2, w3, w4⟩ := hij2
    rw [col2 j i R.c0 hij (top j (by omega) (by omega))]
    constructor
    · intro x
      apply Classical.byContradiction
      intro hn
      rcases Nat.lt_or_ge k j with y | y
      · exact k2 (mono k j (by omega) y (by omega) x)
      · rw [show j = k by omega] at x; exact k2 x
    · intro x
      rcases Nat.lt_or_ge j (k - 1) with y | y
      · exact mono j (k - 1) (by omega) y (by omega) k1
      · rw [show j = k - 1 by omega]; exact k1
  have hins : R.ins (1, k) = true := (Rc.ins_lv (by show ¬ 1 = 0; omega)).2 ⟨q1, q2⟩
  have hfree : R.free g (1, k) = true := (Rc.free_lv (by show ¬ 1 = 0; omega)).2 fun i i1 i2 e => by
    have a1 := (kind i (k - 1) ⟨by omega, by omega, i1, i2⟩).2 (by omega)
    have a2 : ¬ A (g k i) := fun x => by have := (kind i k ⟨by omega, by omega, i1, i2⟩).1 x; omega
    exact a2 (e ▸ a1)
  refine ⟨k, hins, hfree, ?_⟩
  rintro a ⟨x, y, hxy, rfl⟩
  rw [in_left hr C hins hfree hxy, kind y x hxy]; exact Iff.rfl

theorem Rc.in_lt {p : List ByteArray} {R : Rc} (C : R.Clo (gridG p) p.length (wideB p)) {a : Nat} (ha : R.In (gridG p) a) : a < gridR p := by
  obtain ⟨i, j, h1, h2, rfl⟩ := Rc.in_cell C ha
  exact gridG_lt h1 h2
theorem Rc.right_not {R : Rc} {g : Nat → Nat → Nat} {h wd : Nat} (hr : RectG h wd g) (C : R.Clo g h wd) {c : Nat × Nat} (hi : R.ins c = true) (hf : R.free g c = true) {a : Nat} : (R.right c).In g a ↔ R.In g a ∧ ¬ (R.left c).In g a := by
  constructor
  · intro hx
    refine ⟨Rc.right_in hi hx, fun hl => ?_⟩
    obtain ⟨i, j, hij, rfl⟩ := hl
    obtain ⟨i', j', hij', e⟩ := hx
    exact free_two hr C hi hf hij hij' e
  · rintro ⟨⟨i, j, hij, rfl⟩, hn⟩
    rw [in_left hr C hi hf hij] at hn
    rw [in_right hr C hi hf hij]
    omega
/-- a rectangle that is cuttable, and one with the same rooms in the other plan -/
theorem gui_same {p q : List ByteArray} {σ : Nat → Nat} (h : plainB p = true) (hq : plainB q = true) (S : SamR p q σ) {R : Rc} (G : Gui (gridG p) R) : R.Clo (gridG p) p.length (wideB p) → R.Conv p.length (wideB p) (gridG p) →
    ∀ R' : Rc, R'.Clo (gridG q) q.length (wideB q) → R'.Conv q.length (wideB q) (gridG q) → (∀ b, R'.In (gridG q) b ↔ ∃ a, R.In (gridG p) a ∧ σ a = b) → Gui (gridG q) R' := by
  have hp := plainB_plan h; have hqp := plainB_plan hq
  have rp := (planP_of hp).rectG; have rq := (planP_of hqp).rectG
  have np := noX_of h; have nq := noX_of hq
  have sp : ∀ a b, (∃ i j, i < p.length ∧ j < wideB p ∧ gridG p i j = a) → (∃ i j, i < p.length ∧ j < wideB p ∧ gridG p i j = b) → a ≠ b → LL p.length (wideB p) (gridG p) a b ∨ LL p.length (wideB p) (gridG p) b a ∨ AA p.length (wideB p) (gridG p) a b ∨ AA p.length (wideB p) (gridG p) b a := fun a b ha hb hne => by
    have lt : ∀ a, (∃ i j, i < p.length ∧ j < wideB p ∧ gridG p i j = a) → a < gridR p := by
      rintro a ⟨i, j, h1, h2, rfl⟩; exact gridG_lt h1 h2
    have := pL_some hp (lt a ha) (lt b hb) hne
    rwa [pL_left, pL_left, pL_above, pL_above] at this
  induction G with
  | one R h1 =>
    intro C V R' C' V' hro
    refine .one R' ?_
    rw [Rc.one_iff] at h1 ⊢
    intro i j hij
    have key : ∀ i j, R'.has i j → gridG q i j = σ (gridG p R.r0 R.c0) := fun i j hij => by
      obtain ⟨a, ⟨x, y, hxy, rfl⟩, e⟩ := (hro _).1 ⟨i, j, hij, rfl⟩
      rw [← e, h1 x y hxy]
    have f1 := C'.fit.h1; have f2 := C'.fit.w1
    rw [key i j hij, key R'.r0 R'.c0 ⟨by omega, by omega, by omega, by omega⟩]
  | cut R c hw hi hf gl gr il ir =>
    intro C V R' C' V' hro
    have Cl := C.left rp hi hf; have Cr := C.right rp hi hf
    obtain ⟨Vl, Vr⟩ := V.parts rp np C hi hf
    have part : ∀ a, R.In (gridG p) a → ¬ (R.left c).In (gridG p) a → (R.right c).In (gridG p) a := fun a x y => (Rc.right_not rp C hi hf).2 ⟨x, y⟩
    have some1 : ∃ a, R'.In (gridG q) a ∧ ∃ x, (R.left c).In (gridG p) x ∧ σ x = a := by
      have f1 := Cl.fit.h1; have f2 := Cl.fit.w1
      have hx : (R.left c).In (gridG p) (gridG p (R.left c).r0 (R.left c).c0) := ⟨_, _, ⟨by omega, by omega, by omega, by omega⟩, rfl⟩
      exact ⟨_, (hro _).2 ⟨_, Rc.left_in hi hx, rfl⟩, _, hx, rfl⟩
    have some2 : ∃ b, R'.In (gridG q) b ∧ ¬ ∃ x, (R.left c).In (gridG p) x ∧ σ x = b := by
      have f1 := Cr.fit.h1; have f2 := Cr.fit.w1
      have hx : (R.right c).In (gridG p) (gridG p (R.right c).r0 (R.right c).c0) := ⟨_, _, ⟨by omega, by omega, by omega, by omega⟩, rfl⟩
      refine ⟨_, (hro _).2 ⟨_, Rc.right_in hi hx, rfl⟩, ?_⟩
      rintro ⟨y, hy, e⟩
      have := S.inj _ _ (Rc.in_lt Cl hy) (Rc.in_lt Cr hx) e
      rw [this] at hy
      exact ((Rc.right_not rp C hi hf).1 hx).2 hy
    have two : ∀ a b, R'.In (gridG q) a → R'.In (gridG q) b → (∃ x, (R.left c).In (gridG p) x ∧ σ x = a) → (¬ ∃ x, (R.left c).In (gridG p) x ∧ σ x = b) → if c.1 = 0 then LL q.length (wideB q) (gridG q) a b else AA q.length (wideB q) (gridG q) a b := by
      rintro a b ha hb ⟨x, hx, rfl⟩ hn
      obtain ⟨y, hy, rfl⟩ := (hro b).1 hb
      have hyr := part y hy fun k => hn ⟨y, k, rfl⟩
      have := cut_orders rp np sp C V hi hf hx hyr
      have lx := Rc.in_lt Cl hx; have ly := Rc.in_lt Cr hyr
      by_cases h0 : c.1 = 0
      · rw [if_pos h0] at this ⊢
        rw [← pL_left] at this ⊢
        rw [S.left x y lx ly]; exact this
      · rw [if_neg h0] at this ⊢
        rw [← pL_above] at this ⊢
        rw [S.above x y lx ly]; exact this
    have fin : ∀ k : Nat × Nat, k.1 < 2 → R'.ins k = true → R'.free (gridG q) k = true → (∀ a, R'.In (gridG q) a → ((R'.left k).In (gridG q) a ↔ ∃ x, (R.left c).In (gridG p) x ∧ σ x = a)) → Gui (gridG q) R' := fun k k2 hik hfk hl => by
      obtain ⟨Wl, Wr⟩ := V'.parts rq nq C' hik hfk
      refine .cut R' k k2 hik hfk (il Cl Vl _ (C'.left rq hik hfk) Wl fun b => ?_) (ir Cr Vr _ (C'.right rq hik hfk) Wr fun b => ?_)
      · constructor
        · intro hb; exact (hl b (Rc.left_in hik hb)).1 hb
        · rintro ⟨x, hx, rfl⟩
          exact (hl _ ((hro _).2 ⟨x, Rc.left_in hi hx, rfl⟩)).2 ⟨x, hx, rfl⟩
      · rw [Rc.right_not rq C' hik hfk]
        constructor
        · rintro ⟨hb, hn⟩
          obtain ⟨y, hy, rfl⟩ := (hro b).1 hb
          exact ⟨y, part y hy fun z => hn ((hl _ hb).2 ⟨y, z, rfl⟩), rfl⟩
        · rintro ⟨y, hy, rfl⟩
          have hyR := Rc.right_in hi hy
          have hb : R'.In (gridG q) (σ y) := (hro _).2 ⟨y, hyR, rfl⟩
          refine ⟨hb, fun hn => ?_⟩
          obtain ⟨z, hz, e⟩ := (hl _ hb).1 hn
          have := S.inj _ _ (Rc.in_lt Cl hz) (Rc.in_lt Cr hy) e
          rw [this] at hz
          exact ((Rc.right_not rp C hi hf).1 hy).2 hz
    by_cases h0 : c.1 = 0
    · obtain ⟨k, a1, a2, a3⟩ := split_up rq nq C' (fun a => ∃ x, (R.left c).In (gridG p) x ∧ σ x = a) some1 some2 (fun a b ha hb x y => by have := two a b ha hb x y; rwa [if_pos h0] at this) (fun a b ha hb x => by
        have := pL_one hq (Rc.in_lt C' ha) (Rc.in_lt C' hb) (pL_left.2 x)
        rw [← pL_above, ← pL_above, this.2.1, this.2.2]; exact ⟨by decide, by decide⟩)
      exact fin (0, k) (by show 0 < 2; omega) a1 a2 a3
    · obtain ⟨k, a1, a2, a3⟩ := split_lv rq nq C' (fun a => ∃ x, (R.left c).In (gridG p) x ∧ σ x = a) some1 some2 (fun a b ha hb x y => by have := two a b ha hb x y; rwa [if_neg h0] at this) (fun a b ha hb x => by
        have := pL_over hq (Rc.in_lt C' ha) (Rc.in_lt C' hb) (pL_above.2 x)
        rw [← pL_left, ← pL_left, this.2.1, this.2.2]; exact ⟨by decide, by decide⟩)
      exact fin (1, k) (by show 1 < 2; omega) a1 a2 a3
theorem cut_same {p q : List ByteArray} (h : plainB p = true) (hq : plainB q = true) (e : permL p = permL q) (ht : (treeP p).isSome = true) : (treeP q).isSome = true := by
  have hp := plainB_plan h; have hqp := plainB_plan hq
  obtain ⟨σ, S⟩ := same_rooms h hq e
  have all : ∀ {p : List ByteArray} (_ : planB p = true) {a : Nat}, a < gridR p → (allR p).In (gridG p) a := fun {p} hp {a} ha => by
    obtain ⟨i, j, hi, hj, e⟩ := room_at ha
    exact ⟨i, j, ⟨Nat.zero_le _, by show i < 0 + p.length; omega, Nat.zero_le _, by show j < 0 + wideB p; omega⟩, e⟩
  have conv : ∀ {p : List ByteArray} (_ : planB p = true), (allR p).Conv p.length (wideB p) (gridG p) := fun {p} hp a b x _ _ hx _ => by
    obtain ⟨i, j, hi, hj, rfl⟩ := hx
    exact all hp (gridG_lt hi hj)
  rw [treeP_yes hp] at ht
  obtain ⟨t, et⟩ := Option.isSome_iff_exists.1 ht
  have G := gui_same h hq S (Gui.of_tree et) (allR_clo hp) (conv hp) (allR q) (allR_clo hqp) (conv hqp) (fun b => by
    constructor
    · intro hb
      have hb2 := Rc.in_lt (allR_clo hqp) hb
      rw [S.rooms] at hb2
      obtain ⟨a, ha, ea⟩ := S.onto b hb2
      exact ⟨a, all hp ha, ea⟩
    · rintro ⟨a, ha, rfl⟩
      exact all hqp (by rw [S.rooms]; exact S.lt a (Rc.in_lt (allR_clo hp) ha)))
  have hg := (planP_of hqp).grid
  obtain ⟨u, hu⟩ := Gui.tree hg.h6 hg.w6 (n := 12) (allR_fit hqp).1 (allR_fit hqp).2 G
  rw [treeP_yes hqp, hu]; rfl
/-- what the law of plans with the same permutation asks -/
theorem sameOrders_math {p q : List ByteArray} (h : plainB p = true) (hq : plainB q = true) (e : permL p = permL q) : plainB (namesB (turnB p)) = true ∧ plainB (namesB (turnB q)) = true ∧ permL (namesB (turnB p)) = permL (namesB (turnB q)) ∧ (treeP p).isSome = (treeP q).isSome := by
  refine ⟨plain_turn h, plain_turn hq, perm_turns h hq e, ?_⟩
  rw [Bool.eq_iff_iff]
  exact ⟨cut_same h hq e, cut_same hq h e.symm⟩
end Go.Proofs.Ytamfnahbhhmiiaa

/-
  Merged texts: OrdE OrdF.
-/
/-
  The same permutations: lists compared, both sides. (Walks.)
-/
namespace Go.Proofs.Ytamfnahbhhmiiaa
open Go.RowKit

theorem take_eq_step {S T : List Int} {k : Nat} (h1 : k < S.length) (h2 : k < T.length) (h : S.take k = T.take k) (he : S.getD k 0 = T.getD k 0) : S.take (k + 1) = T.take (k + 1) := by
  rw [ints_push S k h1, ints_push T k h2, h, he]
theorem nth_ne {S T : List Int} {k : Nat} (he : ¬ S.getD k 0 = T.getD k 0) : S ≠ T := fun e => he (by rw [e])
theorem cells_int {w : World} {ao : Option Addr} {S : List Int} (h : CellsAt w ao (S.map (Value.int .i64))) {i : Nat} (hi : i < S.length) : ∃ b off, ao = some ⟨b, off, none⟩ ∧ w.cell? ⟨b, off + i, none⟩ = some (.int .i64 (S.getD i 0)) :=
  h i _ (by rw [List.getElem?_map, List.getElem?_eq_getElem hi]; simp [hi])

set_option maxHeartbeats 400000 in
theorem slicesEqualI_any (ao bo : Option Addr) (ca cb ln lm : Nat) (S T : List Int) (w : World) (hln : S.length = ln) (hlm : T.length = lm) (hl : S.length ≤ 1048576)
    (ha : CellsAt w ao (S.map (Value.int .i64))) (hb : CellsAt w bo (T.map (Value.int .i64))) :
    Calls Try.prog 42 #[.slice ao ln ca, .slice bo lm cb] w
      fun e w' => e = .returned (.bool (decide (S = T))) ∧ Quiet w w' := by
  subst hln; subst hlm
  go_enter Try.func42, Try.ntmps42
  by_cases hlen : S.length = T.length
  · have hne : ((S.length : Int) != (T.length : Int)) = false := by simp [hlen]
    go_wp2
    go_loopw [13] (fun i wr => ∃ (k q : Nat), k ≤ S.length ∧ i = .int .i64 k ∧ wr = w.drewN q ∧ S.take k = T.take k) (fun i _ => S.length - (intOf i).toNat)
    case atStart => exact ⟨0, 0, Nat.zero_le _, rfl, rfl, rfl⟩
    case round =>
      obtain ⟨k, q, hk, rfl, rfl, hq⟩ := hrel
      have HQ := Lib.hid hq; clear hq
      by_cases hlt : k < S.length
      · have hlt' : k < T.length := by omega
        obtain ⟨b, off, rfl, hck⟩ := cells_int ha hlt
        obtain ⟨b', off', rfl, hck'⟩ := cells_int hb hlt'
        have HS := Lib.hid (take_eq_step hlt hlt' HQ.out)
        have HN := Lib.hid (@nth_ne S T k)
        have HL := Lib.hid hlen
        clear ha hb hlen
        generalize S.getD k 0 = s at *
        generalize T.getD k 0 = t at *
        by_cases hst : s = t
        · have hd : (s != t) = false := by simp [hst]
          go_wp2
          go_quiet (fail)
          go_wp2
          go_roundw
          case rel => exact ⟨k + 1, q + nq, by omega, by go_num, by simp, HS.out hst⟩
          case measure => simp [intOf]; omega
        · have hd : (s != t) = true := by simp [hst]
          go_wp2
          go_quiet (fail)
          go_wp2
          go_ret
          exact ⟨ret_bool (decide_eq_false (HN.out hst)).symm, q + nq, by simp⟩
      · have he : S = T := by have := HQ.out; rwa [List.take_of_length_le (by omega), List.take_of_length_le (by omega)] at this
        have HE := Lib.hid he; clear he
        go_wp2
        go_ret
        exact ⟨ret_bool (decide_eq_true HE.out).symm, _, rfl⟩
  · have hne : ((S.length : Int) != (T.length : Int)) = true := by simp; omega
    have HF := Lib.hid (show ¬ S = T from fun e => hlen (by rw [e])); clear hlen
    go_wp2
    go_ret
    exact ⟨ret_bool (decide_eq_false HF.out).symm, 0, rfl⟩

set_option maxHeartbeats 400000 in
theorem l5Equal_any (ao bo : Option Addr) (ca cb ln lm : Nat) (S T : List Int) (w : World) (hln : S.length = ln) (hlm : T.length = lm) (hl : S.length ≤ 1048576)
    (ha : CellsAt w ao (S.map (Value.int .i64))) (hb : CellsAt w bo (T.map (Value.int .i64))) :
    Calls Try.prog 43 #[.slice ao ln ca, .slice bo lm cb] w
      fun e w' => e = .returned (.bool (decide (S = T))) ∧ Quiet w w' := by
  subst hln; subst hlm
  go_enter Try.func43, Try.ntmps43
  by_cases hlen : S.length = T.length
  · have hne : ((S.length : Int) != (T.length : Int)) = false := by simp [hlen]
    go_wp2
    go_loopw [5] (fun i wr => ∃ (k q : Nat), k ≤ S.length ∧ i = .int .i64 k ∧ wr = w.drewN q ∧ S.take k = T.take k) (fun i _ => S.length - (intOf i).toNat)
    case atStart => exact ⟨0, 0, Nat.zero_le _, rfl, rfl, rfl⟩
    case round =>
      obtain ⟨k, q, hk, rfl, rfl, hq⟩ := hrel
      have HQ := Lib.hid hq; clear hq
      by_cases hlt : k < S.length
      · have hlt' : k < T.length := by omega
        obtain ⟨b, off, rfl, hck⟩ := cells_int ha hlt
        obtain ⟨b', off', rfl, hck'⟩ := cells_int hb hlt'
        have HS := Lib.hid (take_eq_step hlt hlt' HQ.out)
        have HN := Lib.hid (@nth_ne S T k)
        have HL := Lib.hid hlen
        clear ha hb hlen
        generalize S.getD k 0 = s at *
        generalize T.getD k 0 = t at *
        by_cases hst : s = t
        · have hd : (s != t) = false := by simp [hst]
          go_wp2
          go_quiet (fail)
          go_wp2
          go_roundw
          case rel => exact ⟨k + 1, q + nq, by omega, by go_num, by simp, HS.out hst⟩
          case measure => simp [intOf]; omega
        · have hd : (s != t) = true := by simp [hst]
          go_wp2
          go_quiet (fail)
          go_wp2
          go_ret
          exact ⟨ret_bool (decide_eq_false (HN.out hst)).symm, q + nq, by simp⟩
      · have he : S = T := by have := HQ.out; rwa [List.take_of_length_le (by omega), List.take_of_length_le (by omega)] at this
        have HE := Lib.hid he; clear he
        go_wp2
        go_ret
        exact ⟨ret_bool (decide_eq_true HE.out).symm, _, rfl⟩
  · have hne : ((S.length : Int) != (T.length : Int)) = true := by simp; omega
    have HF := Lib.hid (show ¬ S = T from fun e => hlen (by rw [e])); clear hlen
    go_wp2
    go_ret
    exact ⟨ret_bool (decide_eq_false HF.out).symm, 0, rfl⟩

theorem held_cells {w : World} {g : Nat} {S : List Nat} (h : HeldB w g 3 (setsV S)) : CellsAt w (some ⟨g, 0, none⟩) ((intsL S).map (Value.int .i64)) := fun i u hu => by
  refine ⟨g, 0, rfl, ?_⟩
  rw [Nat.zero_add, h.cell i, ← hu]
  simp [setsV, intsL, Function.comp_def]
def ordSame (p q : List ByteArray) : Bool := plainB p && plainB q && decide (intsL (permL p) = intsL (permL q))

set_option maxRecDepth 100000 in
set_option maxHeartbeats 4000000 in
theorem implOrderSame_any (ao bo : Option Addr) (cap cbp : Nat) (p q : List ByteArray) (w : World) (hl : p.length ≤ 1048576) (hs : ∀ s ∈ p, s.size ≤ 1048576) (hc : CellsAt w ao (p.map Value.string)) (hl2 : q.length ≤ 1048576) (hs2 : ∀ s ∈ q, s.size ≤ 1048576) (hc2 : CellsAt w bo (q.map Value.string)) :
    Calls Try.prog 17 #[.slice ao p.length cap, .slice bo q.length cbp] w fun e w' => e = .returned (.bool (ordSame p q)) ∧ Below w.heap.size w w' := by
  have HZ0 := Lib.hid zero_ordC
  have HZS := Lib.hid (show (ordC zeroC noF).size = 201 from ordC_size (planC_size _ _ _ _) _)
  have HRO := Lib.hid (fun w hc => readOrder_any ao cap p w hl hs hc)
  have HRQ := Lib.hid (fun w hc => readOrder_any bo cbp q w hl2 hs2 hc)
  have HPP := Lib.hid (fun w => permP_any p w)
  have HPQ := Lib.hid (fun w => permP_any q w)
  have HI := Lib.hid (ordP_info p)
  have HS := Lib.hid (ordP_size p)
  have HN := Lib.hid (ordP_one p)
  have HI2 := Lib.hid (ordP_info q)
  have HS2 := Lib.hid (ordP_size q)
  have HN2 := Lib.hid (ordP_one q)
  have HLP := Lib.hid (show (permL p).length ≤ 9 by rw [permL_len]; exact oR_le p)
  have HLQ := Lib.hid (show (permL q).length ≤ 9 by rw [permL_len]; exact oR_le q)
  unfold ordSame
  generalize permL p = SP at *
  generalize permL q = SQ at *
  generalize ordP p = D at *
  generalize ordP q = E at *
  generalize plainB p = x at *
  generalize plainB q = y at *
  generalize ordC zeroC noF = Z at *
  clear hl hs hl2 hs2
  go_enter Try.func17, Try.ntmps17
  go_wp2_with (first
    | (refine wpList_alloc_zero rfl 63 rfl Z HZ0.out ?_)
    | (refine wpList_store_new rfl 63 _ _ rfl _ Z E rfl rfl rfl HI2.out (by rw [HZS.out, HS2.out]) HN2.out ?_)
    | (refine wpList_store_new rfl 63 _ _ rfl _ Z D rfl rfl rfl HI.out (by rw [HZS.out, HS.out]) HN.out ?_)
    | (go_at_call 32; refine (HRO.out _ hc).mono ?_; rintro e w1 ⟨rfl, hb1⟩; have hbD := HeldB.new w1 63 D; have hq2 := (hc2.below hb1).below (below_alloc w1 (.cells D 63)); clear HRO)
    | (go_at_call 32; refine (HRQ.out _ hq2).mono ?_; rintro e w2 ⟨rfl, hb2⟩; have hbD2 := (hbD.below hb2).alloc (.cells E 63); have hbE := HeldB.new w2 63 E))
  have hB2 : Below w.heap.size w (w2.alloc (.cells E 63)) := (below_step (below_step hb1 hb1.size (below_alloc w1 (.cells D 63))) (by have := hb1.size; simp; omega) hb2).trans ((below_alloc w2 (.cells E 63)).mono (by have := hb1.size; have := hb2.size; simp at this; omega))
  generalize w2.alloc (.cells E 63) = W2 at *
  generalize w1.heap.size = B1 at *
  generalize w2.heap.size = B2 at *
  clear hb2 hbD hq2 hc hc2 hb1 HRQ
  cases x
  · go_region
    all_goals
      go_wp2
      go_ret
      exact ⟨rfl, hB2.trans (below_drewN _ W2 1)⟩
  · cases y
    · go_region
      all_goals
        go_wp2
        go_ret
        exact ⟨rfl, hB2.trans (below_drewN _ W2 1)⟩
    · refine wp_region_held (S := fun w' => HeldB w' B1 63 D ∧ HeldB w' B2 63 E) (by kernel_rfl) ?_
      have hBd : Below w.heap.size w ({ W2 with drawn := W2.drawn + 1 } : World) := hB2.trans (below_drewN _ W2 1)
      have hS : HeldB ({ W2 with drawn := W2.drawn + 1 } : World) B1 63 D ∧ HeldB ({ W2 with drawn := W2.drawn + 1 } : World) B2 63 E := ⟨hbD2, hbE⟩
      generalize ({ W2 with drawn := W2.drawn + 1 } : World) = W3 at *
      clear hbD2 hbE hB2
      change Go.wpAnyH Try.prog Region.Mode.any _ _ _ 12 (Array.replicate 12 false) _ _
      refine wpAnyH_take (i := 0) (v := .bool true) rfl (by kernel_rfl) (by kernel_rfl) (by kernel_rfl) (fun _ _ _ h => h) (Yields.yieldsIf (Or.inl ⟨by rfl, fun w => by go_simp⟩)) hS ?_
      refine wpAnyH_take (i := 1) (v := .bool true) rfl (by kernel_rfl) (by kernel_rfl) (by kernel_rfl) (fun _ _ _ h => h) (Yields.yieldsIf (Or.inl ⟨by rfl, fun w => by go_simp⟩)) hS ?_
      refine wpAnyH_take (i := 2) (v := .bool true) rfl (by kernel_rfl) (by kernel_rfl) (by kernel_rfl) (fun _ _ _ h => h) (Yields.yieldsIf (Or.inl ⟨by kernel_rfl, fun w => by go_simp⟩)) hS ?_
      refine wpAnyH_take (i := 3) (v := .bool true) rfl (by kernel_rfl) (by kernel_rfl) (by kernel_rfl) (fun _ _ _ h => h) (Yields.yieldsIf (Or.inl ⟨by kernel_rfl, fun w => by go_simp⟩)) hS ?_
      refine wpAnyH_take (i := 4) (v := .bool true) rfl (by kernel_rfl) (by kernel_rfl) (by kernel_rfl) (fun _ _ _ h => h) (Yields.yieldsIf (Or.inl ⟨by kernel_rfl, fun w => by go_simp⟩)) hS ?_
      refine wpAnyH_take (i := 5) (v := .agg D) rfl (by kernel_rfl) (by kernel_rfl) (by kernel_rfl) (fun _ _ _ h => h) (yieldsIf_load_row (by kernel_rfl) 63 _ rfl B1 (by rfl) 63 D _ (fun _ h => h.1) Try.underlying63 rfl HI.out) hS ?_
      refine wpAnyH_take (i := 7) (v := .agg E) rfl (by kernel_rfl) (by kernel_rfl) (by kernel_rfl) (fun _ _ _ h => h) (yieldsIf_load_row (by kernel_rfl) 63 _ rfl B2 (by rfl) 63 E _ (fun _ h => h.2) Try.underlying63 rfl HI2.out) hS ?_
      refine wpAnyH_all (rs := [6]) (by kernel_rfl) (by decide) ?_
      intro i hi
      simp only [List.mem_cons, List.not_mem_nil, or_false] at hi
      subst hi
      refine wpOp_go rfl (by kernel_rfl) ?_
      unfold Oper.wp
      go_simp
      refine (HPP.out _).mono ?_
      rintro e w3 ⟨⟨g1, hg1, rfl, hP1⟩, hb3⟩
      have hS3 := And.intro (hS.1.below hb3) (hS.2.below hb3)
      have hB3 := below_step hBd hBd.size hb3
      refine ⟨hS3, ?_⟩
      refine wpAnyH_all (rs := [8]) (by kernel_rfl) (by decide) ?_
      intro i hi
      simp only [List.mem_cons, List.not_mem_nil, or_false] at hi
      subst hi
      refine wpOp_go rfl (by kernel_rfl) ?_
      unfold Oper.wp
      go_simp
      refine (HPQ.out _).mono ?_
      rintro e w4 ⟨⟨g2, hg2, rfl, hP2⟩, hb4⟩
      have hS4 := And.intro (hS3.1.below hb4) (hS3.2.below hb4)
      have hB4 := below_step hB3 hB3.size hb4
      have hP14 := hP1.below hb4
      refine ⟨hS4, ?_⟩
      refine wpAnyH_all (rs := [9]) (by kernel_rfl) (by decide) ?_
      intro i hi
      simp only [List.mem_cons, List.not_mem_nil, or_false] at hi
      subst hi
      refine wpOp_go rfl (by kernel_rfl) ?_
      unfold Oper.wp
      go_simp
      refine (slicesEqualI_any (some ⟨g1, 0, none⟩) (some ⟨g2, 0, none⟩) _ _ _ _ (intsL SP) (intsL SQ) _ (intsL_len SP) (intsL_len SQ) (by rw [intsL_len]; have := HLP.out; omega) (held_cells hP14) (held_cells hP2)).mono ?_
      rintro e w5 ⟨rfl, hq5⟩
      have hb5 := hq5.below w4.heap.size
      have hS5 := And.intro (hS4.1.below hb5) (hS4.2.below hb5)
      have hB5 := below_step hB4 hB4.size hb5
      refine ⟨hS5, ?_⟩
      refine wpAnyH_take (i := 10) (v := .bool (decide (intsL SP = intsL SQ))) rfl (by kernel_rfl) (by kernel_rfl) (by kernel_rfl) (fun _ _ _ h => h) (Yields.yieldsIf (Or.inl ⟨by kernel_rfl, fun w => by go_simp⟩)) hS5 ?_
      refine wpAnyH_take (i := 11) (v := .bool (decide (intsL SP = intsL SQ))) rfl (by kernel_rfl) (by kernel_rfl) (by kernel_rfl) (fun _ _ _ h => h) (Yields.yieldsIf (Or.inl ⟨by kernel_rfl, fun w => by go_simp⟩)) hS5 ?_
      refine wpAnyH_done (by kernel_rfl) ?_ _
      go_wp2
      go_ret
      exact ⟨rfl, hB5⟩
end Go.Proofs.Ytamfnahbhhmiiaa

/-
  The same permutations: the model's answer. (Walk.)
-/
namespace Go.Proofs.Ytamfnahbhhmiiaa
open Go.RowKit

set_option maxRecDepth 100000 in
set_option maxHeartbeats 4000000 in
theorem specOrderSame_any (ao bo : Option Addr) (cap cbp : Nat) (p q : List ByteArray) (w : World) (hl : p.length ≤ 1048576) (hs : ∀ s ∈ p, s.size ≤ 1048576) (hc : CellsAt w ao (p.map Value.string)) (hl2 : q.length ≤ 1048576) (hs2 : ∀ s ∈ q, s.size ≤ 1048576) (hc2 : CellsAt w bo (q.map Value.string)) :
    Calls Try.prog 18 #[.slice ao p.length cap, .slice bo q.length cbp] w fun e w' => e = .returned (.bool (ordSame p q)) ∧ Below w.heap.size w w' := by
  have H1 := Lib.hid (fun w hc => l5Plain_any ao cap p w hl hs hc)
  have H2 := Lib.hid (fun w hc => l5Plain_any bo cbp q w hl2 hs2 hc)
  unfold ordSame
  cases hp : plainB p
  · rw [hp] at H1
    rw [Bool.false_and, Bool.false_and]
    clear H2
    go_enter Try.func18, Try.ntmps18
    go_wp2_with (go_at_call 34; refine (H1.out _ hc).mono ?_; rintro e w1 ⟨rfl, hb1⟩)
    go_ret
    exact ⟨rfl, hb1⟩
  · rw [hp] at H1
    cases hq : plainB q
    · rw [hq] at H2
      rw [Bool.and_false, Bool.false_and]
      go_enter Try.func18, Try.ntmps18
      go_wp2_with (first
        | (go_at_call 34; refine (H1.out _ hc).mono ?_; rintro e w1 ⟨rfl, hb1⟩; have hc3 := hc2.below hb1; clear H1)
        | (go_at_call 34; refine (H2.out _ hc3).mono ?_; rintro e w2 ⟨rfl, hb2⟩))
      go_ret
      exact ⟨rfl, below_step hb1 hb1.size hb2⟩
    · rw [hq] at H2
      rw [Bool.true_and, Bool.true_and]
      have H3 := Lib.hid (fun w hc => l5Perm_any ao cap p w hl hs hp hc)
      have H4 := Lib.hid (fun w hc => l5Perm_any bo cbp q w hl2 hs2 hq hc)
      have HLP := Lib.hid (show (intsL (permL p)).length ≤ 9 by rw [intsL_len, permL_len]; exact oR_le p)
      generalize intsL (permL p) = S at *
      generalize intsL (permL q) = T at *
      clear hp hq hl hs hl2 hs2
      go_enter Try.func18, Try.ntmps18
      go_wp2_with (first
        | (go_at_call 34; refine (H1.out _ hc).mono ?_; rintro e w1 ⟨rfl, hb1⟩; have hc3 := hc2.below hb1; clear H1)
        | (go_at_call 34; refine (H2.out _ hc3).mono ?_; rintro e w2 ⟨rfl, hb2⟩; have hc4 := (hc.below hb1).below hb2; clear H2)
        | (go_at_call 35; refine (H3.out _ hc4).mono ?_; rintro e w3 ⟨r1, c1, rfl, o1, hb3⟩; have hc5 := (hc3.below hb2).below hb3; clear H3)
        | (go_at_call 35; refine (H4.out _ hc5).mono ?_; rintro e w4 ⟨r2, c2, rfl, o2, hb4⟩)
        | (go_at_call 43; refine (l5Equal_any r1 r2 _ _ _ _ S T _ rfl rfl (by have := HLP.out; omega) ((owns_cells o1).below hb4) (owns_cells o2)).mono ?_; rintro e w5 ⟨rfl, hq5⟩))
      go_ret
      have s1 := hb1.size
      have s2 := hb2.size
      have s3 := hb3.size
      have s4 := hb4.size
      exact ⟨rfl, ((((hb1.trans (hb2.mono (by omega))).trans (hb3.mono (by omega))).trans (hb4.mono (by omega))).trans (hq5.below w.heap.size))⟩
end Go.Proofs.Ytamfnahbhhmiiaa

/-
  The draw of two plans that often have one permutation. (Walks.)
-/
namespace Go.Proofs.Ytamfnahbhhmiiaa
open Go.RowKit

theorem wide_plan {p : List ByteArray} {k : Int} (h : wideOk p k = true) : planB (namesB (spreadB p k.toNat)) = true := by
  unfold wideOk l6B at h
  simp only [Bool.and_eq_true, decide_eq_true_eq] at h
  obtain ⟨hp, ⟨k1, k3⟩, hd⟩ := h
  obtain ⟨K, rfl⟩ : ∃ K : Nat, k = (K : Int) := ⟨k.toNat, by omega⟩
  rw [Int.toNat_natCast] at hd ⊢
  have hK : 1 ≤ K := by omega
  obtain ⟨m1, m2⟩ := spread_math hp hK
  rw [hd] at m1
  rw [hd, ← m1, orNone_yes rfl, orNone_yes rfl] at m2
  rw [m2]
  have hg26 : ∀ i j, i < p.length * K → j < wideB p * K → gridG p (i / K) (j / K) < 26 := fun i j hi hj => gridG_26 hp ((Nat.div_lt_iff_lt_mul (by omega)).2 hi) ((Nat.div_lt_iff_lt_mul (by omega)).2 hj)
  exact (is_rows m1.symm hg26).plan
/-- two drawn lists, handed back -/
def DrawnSame (e : Ending) (w' : World) : Prop := ∃ ro rc, ∃ l : List ByteArray, ∃ ro2 rc2, ∃ l2 : List ByteArray, l.length ≤ 1048576 ∧ (∀ s ∈ l, s.size ≤ 1048576) ∧ l2.length ≤ 1048576 ∧ (∀ s ∈ l2, s.size ≤ 1048576) ∧ e = .returned (.tuple #[.slice ro l.length rc, .slice ro2 l2.length rc2]) ∧ CellsAt w' ro (l.map Value.string) ∧ CellsAt w' ro2 (l2.map Value.string)

set_option maxRecDepth 100000 in
set_option maxHeartbeats 4000000 in
theorem drawOrderSame_any (ao : Option Addr) (cap : Nat) (c : List UInt8) (w : World) (hcap : c.length ≤ cap) (hl : c.length ≤ 1048576) (hc : CellsAt w ao (c.map byteV)) :
    Calls Try.prog 16 #[.slice ao c.length cap] w fun e w' => DrawnSame e w' ∧ Below w.heap.size w w' := by
  have HO := Lib.hid (l6Open_any ao cap c w hcap hl hc)
  clear hc
  go_enter Try.func16, Try.ntmps16
  go_wp2_with fail
  refine HO.out.mono ?_
  rintro e w1 ⟨rfl, hr1, hb1⟩
  go_wp2_with fail
  refine (l91Plain_any 0 w.heap.size 3 3 _ (by omega) (by omega) (by omega) hr1).mono ?_
  rintro e w2 ⟨ro, rc, l, hsm, rfl, hla, hr2, hg2⟩
  have HS := Lib.hid hsm
  have hb2 := below_reader hb1 hb1.size hg2
  clear hb1 hg2 hr1 hsm
  go_wp2_with fail
  refine (pick_any _ w.heap.size 2 _ (by omega) hr2).mono ?_
  rintro e w3 ⟨v1, rfl, hv1, hr3, hg3⟩
  have hb3 := below_reader hb2 hb2.size hg3
  have hl3 := hla.grown hg3
  have hl1 : v1 < 2 := by omega
  clear hv1 hb2 hg3 hr2 hla
  go_wp2_with fail
  refine (specWide_any ro rc l _ _ HS.out.small.1 HS.out.small.2 hl3.1).mono ?_
  rintro e w4 ⟨⟨ro4, rc4, rfl, ow⟩, hb4⟩
  have HL4 := Lib.hid (hl3.below hb4)
  have HR4 := Lib.hid (hr3.below hb4)
  have HB4 := Lib.hid (below_step hb3 hb3.size hb4)
  have hlt : w.heap.size < w3.heap.size := hr3.lt
  cases hw : wideOk l (1 + (v1 : Int))
  · clear ow hb4 hb3 hr3 hl3
    rw [orNone_no rfl]
    go_wp2_with fail
    refine (l91Plain_any (0 + 240 + 1) w.heap.size 3 3 _ (by omega) (by omega) (by omega) HR4.out).mono ?_
    rintro e w7 ⟨ro7, rc7, l7, hsm7, rfl, hla7, hr7, hg7⟩
    have HB7 := below_reader HB4.out HB4.out.size hg7
    have HL7 := HL4.out.grown hg7
    go_wp2
    exact bodyPost_ret (v := .tuple #[.slice ro l.length rc, .slice ro7 l7.length rc7]) (by simp [results, Try.f16, go_sem]) rfl ⟨⟨ro, rc, l, ro7, rc7, l7, HS.out.small.1, HS.out.small.2, hsm7.small.1, hsm7.small.2, rfl, HL7.1, hla7.1⟩, HB7⟩
  · rw [hw, orNone_yes rfl] at ow
    rw [orNone_yes rfl]
    have hpl := wide_plan hw
    have hsz := plan_small hpl
    have CQ := Lib.hid (show ListAt w.heap.size w4 ro4 (namesB (spreadB l (1 + (v1 : Int)).toNat)) from ⟨owns_cells ow, fun a ha => by have := (owns_lt ow a ha).1; omega⟩)
    clear ow hb4 hb3 hr3 hl3 hw hpl
    generalize namesB (spreadB l (1 + (v1 : Int)).toNat) = q at *
    have SZ1 := Lib.hid hsz.1; have SZ2 := Lib.hid hsz.2; clear hsz
    go_wp2_with fail
    refine (pick_any _ w.heap.size 2 _ (by omega) HR4.out).mono ?_
    rintro e w5 ⟨v2, rfl, hv2, hr5, hg5⟩
    have HL5 := Lib.hid (HL4.out.grown hg5)
    have HQ5 := Lib.hid (CQ.out.grown hg5)
    have HB5 := Lib.hid (below_reader HB4.out HB4.out.size hg5)
    have HR5 := Lib.hid hr5
    clear hv2 hg5 hr5
    by_cases hz : v2 = 0
    · have hz1 : ((v2 : Int) == 0) = true := by rw [beq_iff_eq]; omega
      subst hz
      go_wp2
      exact bodyPost_ret (v := .tuple #[.slice ro l.length rc, .slice ro4 q.length rc4]) (by simp [results, Try.f16, go_sem]) rfl ⟨⟨ro, rc, l, ro4, rc4, q, HS.out.small.1, HS.out.small.2, SZ1.out, SZ2.out, rfl, HL5.out.1, HQ5.out.1⟩, HB5.out⟩
    · have hz1 : ((v2 : Int) == 0) = false := by rw [beq_eq_false_iff_ne]; omega
      have hz2 : ¬ (v2 : Int) = 0 := by omega
      go_wp2_with fail
      refine (l91Plain_any (0 + 240 + 1 + 1) w.heap.size 3 3 _ (by omega) (by omega) (by omega) HR5.out).mono ?_
      rintro e w7 ⟨ro7, rc7, l7, hsm7, rfl, hla7, hr7, hg7⟩
      have HB7 := below_reader HB5.out HB5.out.size hg7
      have HL7 := HL5.out.grown hg7
      go_wp2
      exact bodyPost_ret (v := .tuple #[.slice ro l.length rc, .slice ro7 l7.length rc7]) (by simp [results, Try.f16, go_sem]) rfl ⟨⟨ro, rc, l, ro7, rc7, l7, HS.out.small.1, HS.out.small.2, hsm7.small.1, hsm7.small.2, rfl, HL7.1, hla7.1⟩, HB7⟩
end Go.Proofs.Ytamfnahbhhmiiaa

namespace Go.Proofs.Ytamfnahbhhmiiaa
open Go.ChangeShapes Go.WideShapes Go.ChangeAt Go.RowKit

set_option maxRecDepth 100000 in
set_option maxHeartbeats 4000000 in
theorem fnOrderSame_all (aC : Option Addr) (kC : Nat) (lC : List UInt8) (w : World) (mC : lC.length ≤ maxLen) (zC : lC.length ≤ kC) (cC : CellsAt w aC (lC.map byteV)) :
    Calls Try.prog 5 #[.slice aC lC.length kC] w fun e w' => e = .returned (.bool true) ∧ Below w.heap.size w w' := by
  have mC2 := mC
  clear mC2
  by_cases dC : lC.length ≤ 1048576
  · have hdC : decide (1048576 < (lC.length : Int)) = false := by rw [decide_eq_false_iff_not]; omega
    go_enter Try.func5, Try.ntmps5
    go_wp2_with fail
    refine (drawOrderSame_any _ _ _ _ zC dC cC).mono ?_
    rintro e w1 ⟨⟨roP, rcP, lP, roQ, rcQ, lQ, LP, SP, LQ, SQ, rfl, c_P, c_Q⟩, hb⟩
    have hB := hb
    clear hb
    cases hd : ordSame lP lQ
    · -- not the same
      have HI := Lib.hid (fun w c d => implOrderSame_any roP roQ rcP rcQ lP lQ w LP SP c LQ SQ d)
      have HS := Lib.hid (fun w c d => specOrderSame_any roP roQ rcP rcQ lP lQ w LP SP c LQ SQ d)
      rw [hd] at HI HS
      clear hd
      go_wp2_with fail
      refine (HI.out _ c_P c_Q).mono ?_
      rintro e w2 ⟨rfl, hb⟩
      replace c_P := c_P.below hb
      replace c_Q := c_Q.below hb
      replace hB := below_step hB hB.size hb
      clear hb
      go_wp2_with fail
      refine (HS.out _ c_P c_Q).mono ?_
      rintro e w3 ⟨rfl, hb⟩
      replace c_P := c_P.below hb
      replace c_Q := c_Q.below hb
      replace hB := below_step hB hB.size hb
      clear hb
      go_wp2
      go_ret
      exact ⟨rfl, hB⟩
    · -- the same
      have HI := Lib.hid (fun w c d => implOrderSame_any roP roQ rcP rcQ lP lQ w LP SP c LQ SQ d)
      have HS := Lib.hid (fun w c d => specOrderSame_any roP roQ rcP rcQ lP lQ w LP SP c LQ SQ d)
      have HT := Lib.hid (fun w c => implTurn_any roP rcP lP w LP SP c)
      have HU := Lib.hid (fun w c => implTurn_any roQ rcQ lQ w LQ SQ c)
      have HR := Lib.hid (fun w c d => implOrderSame_any roQ roP rcQ rcP lQ lP w LQ SQ d LP SP c)
      have HC := Lib.hid (fun w c => implCutIs_any roP rcP lP w LP SP c)
      have HD := Lib.hid (fun w c => implCutIs_any roQ rcQ lQ w LQ SQ c)
      have hd2 := hd
      unfold ordSame at hd2
      rw [Bool.and_eq_true, Bool.and_eq_true, decide_eq_true_eq] at hd2
      obtain ⟨⟨p1, p2⟩, p3⟩ := hd2
      have pe := intsL_inj p3
      obtain ⟨m1, m2, m3, m4⟩ := sameOrders_math p1 p2 pe
      have hpp := plainB_plan p1; have hpq := plainB_plan p2; have s1 := plan_small (plainB_plan m1); have s2 := plan_small (plainB_plan m2)
      have HV := Lib.hid (fun ro ro2 rc rc2 w c d => implOrderSame_any ro ro2 rc rc2 (namesB (turnB lP)) (namesB (turnB lQ)) w s1.1 s1.2 c s2.1 s2.2 d)
      have d1 : ordSame lQ lP = true := by unfold ordSame; rw [p1, p2, pe]; simp
      have d2 : ordSame (namesB (turnB lP)) (namesB (turnB lQ)) = true := by unfold ordSame; rw [m1, m2, m3]; simp
      rw [hd] at HI HS
      rw [d1] at HR
      rw [d2] at HV
      rw [hpp, orNone_yes rfl] at HT
      rw [hpq, orNone_yes rfl] at HU
      rw [← m4] at HD
      clear hd p1 p2 p3 pe m1 m2 m3 m4 hpp hpq d1 d2 s1 s2
      generalize namesB (turnB lP) = T at *
      generalize namesB (turnB lQ) = U at *
      generalize (treeP lP).isSome = ct at *
      go_wp2_with fail
      refine (HI.out _ c_P c_Q).mono ?_
      rintro e w4 ⟨rfl, hb⟩
      replace c_P := c_P.below hb
      replace c_Q := c_Q.below hb
      replace hB := below_step hB hB.size hb
      clear hb
      go_wp2_with fail
      refine (HS.out _ c_P c_Q).mono ?_
      rintro e w5 ⟨rfl, hb⟩
      replace c_P := c_P.below hb
      replace c_Q := c_Q.below hb
      replace hB := below_step hB hB.size hb
      clear hb
      go_wp2_with fail
      refine (HT.out _ c_P).mono ?_
      rintro e w6 ⟨⟨roT, rcT, rfl, ow⟩, hb⟩
      replace c_P := c_P.below hb
      replace c_Q := c_Q.below hb
      replace hB := below_step hB hB.size hb
      clear hb
      have c_T := owns_cells ow
      clear ow
      go_wp2_with fail
      refine (HU.out _ c_Q).mono ?_
      rintro e w7 ⟨⟨roU, rcU, rfl, ow⟩, hb⟩
      replace c_P := c_P.below hb
      replace c_Q := c_Q.below hb
      replace c_T := c_T.below hb
      replace hB := below_step hB hB.size hb
      clear hb
      have c_U := owns_cells ow
      clear ow
      go_wp2_with fail
      refine (HR.out _ c_P c_Q).mono ?_
      rintro e w8 ⟨rfl, hb⟩
      replace c_P := c_P.below hb
      replace c_Q := c_Q.below hb
      replace c_T := c_T.below hb
      replace c_U := c_U.below hb
      replace hB := below_step hB hB.size hb
      clear hb
      go_wp2_with fail
      refine (HV.out _ _ _ _ _ c_T c_U).mono ?_
      rintro e w9 ⟨rfl, hb⟩
      replace c_P := c_P.below hb
      replace c_Q := c_Q.below hb
      replace c_T := c_T.below hb
      replace c_U := c_U.below hb
      replace hB := below_step hB hB.size hb
      clear hb
      go_wp2_with fail
      refine (HC.out _ c_P).mono ?_
      rintro e w10 ⟨rfl, hb⟩
      replace c_P := c_P.below hb
      replace c_Q := c_Q.below hb
      replace c_T := c_T.below hb
      replace c_U := c_U.below hb
      replace hB := below_step hB hB.size hb
      clear hb
      go_wp2_with fail
      refine (HD.out _ c_Q).mono ?_
      rintro e w11 ⟨rfl, hb⟩
      replace c_P := c_P.below hb
      replace c_Q := c_Q.below hb
      replace c_T := c_T.below hb
      replace c_U := c_U.below hb
      replace hB := below_step hB hB.size hb
      clear hb
      have hct : (ct == ct) = true := by simp
      go_wp2
      go_ret
      exact ⟨rfl, hB⟩
  · have hdC : decide (1048576 < (lC.length : Int)) = true := by rw [decide_eq_true_eq]; omega
    go_enter Try.func5, Try.ntmps5
    go_wp2
    go_ret
    exact ⟨rfl, Below.refl _ _⟩

set_option maxRecDepth 100000 in
theorem fnOrderSame_lifted (os : Os) (started : os.Started) (H : Type) (enc : TypeId × Value → H) :
    ReturnsInHanded {} Try.checked os 5 .any (Rows.fnOrderSameSpec.pre6 enc Try.prog Try.f5 Rows.fnOrderSameRow.domain false) (Rows.fnOrderSameSpec.post enc Try.prog Try.f5 false true false false) := by
  refine returnsInHanded_of_change (C := Try.checked) Try.own started (by kernel_rfl) Try.func5
    (ChangeSpec.witness6 (enc := enc) (C := Try.checked) false ⟨#[], #[.slice none 0 0], []⟩ 8 (by kernel_rfl) (by kernel_rfl) (by kernel_rfl) (by kernel_rfl)) ?_
  intro W base args ds gs before hval0 hW _ _
  have hval : ∀ (j : Nat) t v, Try.f5.params[j]? = some t → args[j]? = some v → Value.okWide Try.prog W .any base t v := hval0
  have hW' := hW
  obtain ⟨p, q, hA0, hV, rfl, _, _⟩ := hW
  have hA : DataW.TrodAll enc Try.prog W 0 (fun _ => true) true Try.f5.params.toList args.toList ds p := hA0
  rw [Try.params5] at hA hval
  obtain ⟨v0, d0, rfl, rfl, h0⟩ := trodAll_one hA
  obtain ⟨rfl, rfl⟩ := trodVars_none hV
  obtain ⟨aC, eC, kC, rfl⟩ := okWide_slice Try.underlying22 (hval 0 22 v0 rfl rfl)
  clear hA0 hval0
  simp only [List.append_nil] at hW'
  have hlt0 : ∀ x ∈ p, x.block < W.heap.size := fun x hx => by simpa using hW'.lt x (by simp [hx])
  obtain ⟨lC, rfl, mC, zC, cC⟩ := open_bytes h0
  refine (fnOrderSame_all aC kC lC W mC zC cC).mono fun e W' ⟨he, hb⟩ => ?_
  subst he
  refine ⟨_, rfl, _, _, _, [], _, [], hW', trodAll_mk1 (shut_bool Try.underlying4 _), trodAll_mk1 (Below.trod Try.laidOut (by kernel_rfl) (of_decide_eq_true (by kernel_rfl)) h0 hb hlt0), rfl, hb.frame _, fun h => by cases h⟩

theorem fnOrderSame_holds : Rows.FnOrderSameSaid :=
  OpenClaim.holds_of_wide 5 Try.f5 rfl rfl rfl rfl rfl rfl rfl ⟨rfl, rfl, rfl, rfl, rfl⟩ rfl rfl rfl rfl rfl (by kernel_rfl) Try.func5 (by kernel_rfl)
    (of_decide_eq_true (by kernel_rfl)) (by unfold Func.isWrapper; first | (rw [if_pos (by decide +kernel)]; kernel_rfl) | (rw [if_neg (by decide +kernel)]; exact ⟨rfl, rfl⟩))
    (fun os started H enc _ => fnOrderSame_lifted os started H enc)

end Go.Proofs.Ytamfnahbhhmiiaa
