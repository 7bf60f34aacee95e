
/-
  Merged texts: LonM LonI LonS LonT.
-/
import Derived.Test.YtiaimcedcjapdaaOrdAB

/-
  Longest rows of rooms, each led to by the one ahead: from behind and from ahead. (Plain mathematics.)
-/
namespace Go.Proofs.Ytiaimcedcjapdaa

/-- a way of so many steps -/
def Pth (f : Nat → Nat → Bool) (r : Nat) : Nat → Nat → Nat → Prop
  | 0, a, b => a = b ∧ a < r
  | n + 1, a, c => ∃ b, Pth f r n a b ∧ f b c = true ∧ c < r
theorem Pth.lt {f : Nat → Nat → Bool} {r : Nat} : ∀ {n a b : Nat}, Pth f r n a b → a < r ∧ b < r
  | 0, a, b, h => by obtain ⟨rfl, h⟩ := h; exact ⟨h, h⟩
  | n + 1, a, b, h => by
    obtain ⟨c, h1, _, h3⟩ := h
    exact ⟨(Pth.lt h1).1, h3⟩
theorem Pth.front {f : Nat → Nat → Bool} {r : Nat} : ∀ {n a b c : Nat}, a < r → f a b = true → Pth f r n b c → Pth f r (n + 1) a c
  | 0, a, b, c, ha, hf, h => by obtain ⟨rfl, h⟩ := h; exact ⟨a, ⟨rfl, ha⟩, hf, h⟩
  | n + 1, a, b, c, ha, hf, h => by
    obtain ⟨d, h1, h2, h3⟩ := h
    exact ⟨d, Pth.front ha hf h1, h2, h3⟩
theorem Pth.split {f : Nat → Nat → Bool} {r : Nat} : ∀ {n a c : Nat}, Pth f r (n + 1) a c → ∃ b, f a b = true ∧ Pth f r n b c
  | 0, a, c, h => by
    obtain ⟨b, ⟨rfl, _⟩, h2, h3⟩ := h
    exact ⟨c, h2, rfl, h3⟩
  | n + 1, a, c, h => by
    obtain ⟨d, h1, h2, h3⟩ := h
    obtain ⟨b, b1, b2⟩ := Pth.split h1
    exact ⟨b, b1, d, b2, h2, h3⟩
theorem Pth.rev {f : Nat → Nat → Bool} {r : Nat} : ∀ {n a b : Nat}, Pth f r n a b → Pth (fun x y => f y x) r n b a
  | 0, a, b, h => by obtain ⟨rfl, h⟩ := h; exact ⟨rfl, h⟩
  | n + 1, a, c, h => by
    obtain ⟨b, h1, h2, h3⟩ := h
    exact Pth.front (f := fun x y => f y x) h3 h2 (Pth.rev h1)

/-- the most of what leads to a room, one more -/
def foM (f : Nat → Nat → Bool) (v : Nat → Nat) (b : Nat) : Nat → Nat
  | 0 => 0
  | i + 1 => if f i b = true then max (foM f v b i) (v i + 1) else foM f v b i
theorem foM_le {f : Nat → Nat → Bool} {v : Nat → Nat} {b n : Nat} : ∀ i, (n + 1 ≤ foM f v b i ↔ ∃ a, a < i ∧ f a b = true ∧ n ≤ v a)
  | 0 => by unfold foM; constructor; · intro h; omega
            · rintro ⟨a, h, _⟩; omega
  | i + 1 => by
    have ih := foM_le (f := f) (v := v) (b := b) (n := n) i
    unfold foM
    constructor
    · intro h
      split at h
      · rename_i hf
        by_cases h2 : n ≤ v i
        · exact ⟨i, by omega, hf, h2⟩
        · obtain ⟨a, a1, a2⟩ := ih.1 (by omega)
          exact ⟨a, by omega, a2⟩
      · obtain ⟨a, a1, a2⟩ := ih.1 h
        exact ⟨a, by omega, a2⟩
    · rintro ⟨a, a1, a2, a3⟩
      by_cases hai : a = i
      · subst hai; rw [if_pos a2]; omega
      · have := ih.2 ⟨a, by omega, a2, a3⟩
        split <;> omega
def upK (f : Nat → Nat → Bool) (r : Nat) : Nat → Nat → Nat
  | 0, _ => 0
  | k + 1, b => foM f (upK f r k) b r
theorem upK_le {f : Nat → Nat → Bool} {r : Nat} : ∀ {k b n : Nat}, b < r → (n ≤ upK f r k b ↔ n ≤ k ∧ ∃ c, Pth f r n c b)
  | 0, b, n, hb => by
    unfold upK
    constructor
    · intro h; obtain rfl : n = 0 := by omega
      exact ⟨h, b, rfl, hb⟩
    · rintro ⟨h, _⟩; exact h
  | k + 1, b, 0, hb => ⟨fun _ => ⟨Nat.zero_le _, b, rfl, hb⟩, fun _ => Nat.zero_le _⟩
  | k + 1, b, n + 1, hb => by
    unfold upK
    rw [foM_le r]
    constructor
    · rintro ⟨a, a1, a2, a3⟩
      obtain ⟨h1, c, h2⟩ := (upK_le a1).1 a3
      exact ⟨by omega, c, a, h2, a2, hb⟩
    · rintro ⟨h, c, a, h1, h2, h3⟩
      exact ⟨a, h1.lt.2, h2, (upK_le h1.lt.2).2 ⟨by omega, c, h1⟩⟩

/-- a question with a line that goes along it -/
structure Goes (f q : Nat → Nat → Bool) (r : Nat) : Prop where
  lin : Lin q r
  imp : ∀ a b, f a b = true → a < r ∧ b < r ∧ q a b = true
theorem Goes.few {f q : Nat → Nat → Bool} {r : Nat} (G : Goes f q r) : ∀ {n a b : Nat}, Pth f r n a b → placeN q r a + n ≤ placeN q r b
  | 0, a, b, h => by obtain ⟨rfl, _⟩ := h; exact Nat.le_refl _
  | n + 1, a, c, h => by
    obtain ⟨b, h1, h2, h3⟩ := h
    have := G.few h1
    have := G.lin.mono h1.lt.2 h3 (G.imp _ _ h2).2.2
    omega
theorem Goes.lt {f q : Nat → Nat → Bool} {r n a b : Nat} (G : Goes f q r) (h : Pth f r n a b) : n < r := by
  have := G.few h
  have := G.lin.lt h.lt.2
  omega
/-- the most steps that end at a room -/
def hiM (f : Nat → Nat → Bool) (r b : Nat) : Nat := upK f r r b
theorem Goes.hi {f q : Nat → Nat → Bool} {r b n : Nat} (G : Goes f q r) (hb : b < r) : n ≤ hiM f r b ↔ ∃ c, Pth f r n c b := by
  unfold hiM
  rw [upK_le hb]
  exact ⟨fun h => h.2, fun h => ⟨by obtain ⟨c, hc⟩ := h; have := G.lt hc; omega, h⟩⟩
theorem nat_ext {x y : Nat} (h : ∀ n, n + 1 ≤ x ↔ n + 1 ≤ y) : x = y := by
  rcases Nat.lt_trichotomy x y with h1 | h1 | h1
  · have := (h x).2 h1; omega
  · exact h1
  · have := (h y).1 h1; omega
theorem Goes.fix {f q : Nat → Nat → Bool} {r b : Nat} (G : Goes f q r) (hb : b < r) : foM f (hiM f r) b r = hiM f r b := by
  apply nat_ext
  intro n
  rw [foM_le r, G.hi hb]
  constructor
  · rintro ⟨a, a1, a2, a3⟩
    obtain ⟨c, hc⟩ := (G.hi a1).1 a3
    exact ⟨c, a, hc, a2, hb⟩
  · rintro ⟨c, a, h1, h2, h3⟩
    exact ⟨a, h1.lt.2, h2, (G.hi h1.lt.2).2 ⟨c, h1⟩⟩
theorem foM_few {f q : Nat → Nat → Bool} {r b i : Nat} (G : Goes f q r) (hb : b < r) (hi : i ≤ r) : foM f (hiM f r) b i ≤ r := by
  rcases Nat.eq_zero_or_pos (foM f (hiM f r) b i) with h | h
  · omega
  · obtain ⟨a, a1, a2, a3⟩ := (foM_le (f := f) (v := hiM f r) (b := b) (n := foM f (hiM f r) b i - 1) i).1 (by omega)
    obtain ⟨c, hc⟩ := (G.hi (by omega)).1 a3
    have := G.lt hc
    omega
theorem Goes.hi_lt {f q : Nat → Nat → Bool} {r b : Nat} (G : Goes f q r) (hb : b < r) : hiM f r b < r := by
  obtain ⟨c, hc⟩ := (G.hi hb).1 (Nat.le_refl _)
  exact G.lt hc

/-- the longest row: the greatest number along a line, one more -/
def moM (f q : Nat → Nat → Bool) (r : Nat) : Nat → Nat
  | 0 => 0
  | k + 1 => max (moM f q r k) (hiM f r ((lineN q r r).getD k 0) + 1)
def lonQ (f q : Nat → Nat → Bool) (r : Nat) : Nat := moM f q r r
theorem moM_le {f q : Nat → Nat → Bool} {r n : Nat} : ∀ k, (n + 1 ≤ moM f q r k ↔ ∃ i, i < k ∧ n ≤ hiM f r ((lineN q r r).getD i 0))
  | 0 => by unfold moM; constructor; · intro h; omega
            · rintro ⟨a, h, _⟩; omega
  | k + 1 => by
    have ih := moM_le (f := f) (q := q) (r := r) (n := n) k
    unfold moM
    constructor
    · intro h
      by_cases h2 : n ≤ hiM f r ((lineN q r r).getD k 0)
      · exact ⟨k, by omega, h2⟩
      · obtain ⟨i, i1, i2⟩ := ih.1 (by omega)
        exact ⟨i, by omega, i2⟩
    · rintro ⟨i, i1, i2⟩
      by_cases hik : i = k
      · subst hik; omega
      · have := ih.2 ⟨i, by omega, i2⟩; omega
theorem Goes.long {f q : Nat → Nat → Bool} {r n : Nat} (G : Goes f q r) : n + 1 ≤ lonQ f q r ↔ ∃ a b, Pth f r n a b := by
  unfold lonQ
  rw [moM_le]
  constructor
  · rintro ⟨i, i1, i2⟩
    obtain ⟨c, hc⟩ := (G.hi (G.lin.back i1).2).1 i2
    exact ⟨c, _, hc⟩
  · rintro ⟨a, b, h⟩
    refine ⟨placeN q r b, G.lin.lt h.lt.2, ?_⟩
    rw [G.lin.line h.lt.2]
    exact (G.hi h.lt.2).2 ⟨a, h⟩
theorem Goes.long_le {f q : Nat → Nat → Bool} {r : Nat} (G : Goes f q r) : lonQ f q r ≤ r := by
  rcases Nat.eq_zero_or_pos (lonQ f q r) with h | h
  · omega
  · obtain ⟨a, b, hp⟩ := (G.long (n := lonQ f q r - 1)).1 (by omega)
    have := G.lt hp
    omega
theorem moM_few {f q : Nat → Nat → Bool} {r k : Nat} (G : Goes f q r) (hk : k ≤ r) : moM f q r k ≤ r := by
  rcases Nat.eq_zero_or_pos (moM f q r k) with h | h
  · omega
  · obtain ⟨i, i1, i2⟩ := (moM_le (f := f) (q := q) (r := r) (n := moM f q r k - 1) k).1 (by omega)
    have := G.hi_lt (G.lin.back (k := i) (by omega)).2
    omega

/-! # from ahead -/
/-- the most rooms that begin at one -/
def loM (f : Nat → Nat → Bool) (r a : Nat) : Nat := hiM (fun x y => f y x) r a + 1
theorem Goes.lo {f q : Nat → Nat → Bool} {r a n : Nat} (G : Goes f q r) (ha : a < r) : n + 1 ≤ loM f r a ↔ ∃ b, Pth f r n a b := by
  unfold loM hiM
  rw [Nat.add_le_add_iff_right, upK_le ha]
  constructor
  · rintro ⟨_, c, hc⟩; exact ⟨c, hc.rev⟩
  · rintro ⟨b, hb⟩
    exact ⟨by have := G.lt hb; omega, b, hb.rev⟩
theorem loM_pos (f : Nat → Nat → Bool) (r a : Nat) : 1 ≤ loM f r a := by unfold loM; omega
theorem Goes.lo_step {f q : Nat → Nat → Bool} {r a b : Nat} (G : Goes f q r) (hf : f a b = true) : loM f r b + 1 ≤ loM f r a := by
  obtain ⟨ha, hb, _⟩ := G.imp _ _ hf
  have h1 := loM_pos f r b
  obtain ⟨c, hc⟩ := (G.lo (n := loM f r b - 1) hb).1 (by omega)
  have := (G.lo (n := loM f r b - 1 + 1) ha).2 ⟨c, hc.front ha hf⟩
  omega
theorem Goes.lo_some {f q : Nat → Nat → Bool} {r a : Nat} (G : Goes f q r) (ha : a < r) (h : 2 ≤ loM f r a) : ∃ b, b < r ∧ f a b = true ∧ loM f r a ≤ loM f r b + 1 := by
  obtain ⟨c, hc⟩ := (G.lo (n := loM f r a - 2 + 1) ha).1 (by omega)
  obtain ⟨b, b1, b2⟩ := Pth.split hc
  have := (G.lo b2.lt.1).2 ⟨c, b2⟩
  exact ⟨b, b2.lt.1, b1, by omega⟩
theorem Goes.lo_le {f q : Nat → Nat → Bool} {r a : Nat} (G : Goes f q r) (ha : a < r) : loM f r a ≤ lonQ f q r := by
  have h1 := loM_pos f r a
  obtain ⟨c, hc⟩ := (G.lo (n := loM f r a - 1) ha).1 (by omega)
  have := G.long.2 ⟨a, c, hc⟩
  omega
theorem Goes.lo_is {f q : Nat → Nat → Bool} {r : Nat} (G : Goes f q r) (hr : 1 ≤ r) : ∃ a, a < r ∧ lonQ f q r ≤ loM f r a := by
  have h1 : 1 ≤ lonQ f q r := (G.long (n := 0)).2 ⟨0, 0, rfl, by omega⟩
  obtain ⟨a, b, hp⟩ := (G.long (n := lonQ f q r - 1)).1 (by omega)
  have := (G.lo hp.lt.1).2 ⟨b, hp⟩
  exact ⟨a, hp.lt.1, by omega⟩
end Go.Proofs.Ytiaimcedcjapdaa

/-
  The longest rows of rooms: the program's. (Walks.)
-/
namespace Go.Proofs.Ytiaimcedcjapdaa
open Go.RowKit

/-- nine numbers -/
def nineC (v : Nat → Nat) : Array Value := ((List.range 9).map fun b => Value.int .i64 ((v b : Nat) : Int)).toArray
theorem nineC_size (v : Nat → Nat) : (nineC v).size = 9 := by simp [nineC]
theorem nineC_at {v : Nat → Nat} {b : Nat} (h : b < 9) : (nineC v)[b]? = some (.int .i64 ((v b : Nat) : Int)) := by simp [nineC, h]
theorem nineC_put (v : Nat → Nat) {b : Nat} (h : b < 9) (m : Nat) : (nineC v).setIfInBounds b (.int .i64 (m : Nat)) = nineC (fun x => if x = b then m else v x) := by
  apply Array.ext_getElem?
  intro i
  rw [Array.getElem?_setIfInBounds]
  by_cases hi : b = i
  · subst hi; rw [if_pos rfl, if_pos (by rw [nineC_size]; exact h), nineC_at h, if_pos rfl]
  · rw [if_neg hi]
    by_cases h9 : i < 9
    · rw [nineC_at h9, nineC_at h9, if_neg (fun e => hi e.symm)]
    · rw [Array.getElem?_eq_none (by rw [nineC_size]; omega), Array.getElem?_eq_none (by rw [nineC_size]; omega)]
theorem nineC_same {v v' : Nat → Nat} (h : ∀ b, b < 9 → v b = v' b) : nineC v = nineC v' := by
  unfold nineC
  congr 1
  refine List.map_congr_left fun i hi => ?_
  rw [h i (List.mem_range.1 hi)]
theorem zero_nine : nineC (fun _ => 0) = #[.int .i64 0, .int .i64 0, .int .i64 0, .int .i64 0, .int .i64 0, .int .i64 0, .int .i64 0, .int .i64 0, .int .i64 0] := by kernel_rfl
theorem zero_nineC (w : World) : (zeroValue 80).run Try.prog w = .ok (.agg (nineC fun _ => 0)) w := by
  rw [zero_nine]; exact Try.zeroValue80 w

/-- what is known once the first rooms of the line are gone through -/
def vK (f q : Nat → Nat → Bool) (r k x : Nat) : Nat := if x < r ∧ placeN q r x < k then hiM f r x else 0
def vI (f q : Nat → Nat → Bool) (r k b i x : Nat) : Nat := if x = b then foM f (hiM f r) b i else vK f q r k x
theorem vK_zero (f q : Nat → Nat → Bool) (r x : Nat) : vK f q r 0 x = 0 := by unfold vK; rw [if_neg (by omega)]
theorem vI_zero {f q : Nat → Nat → Bool} {r k b : Nat} (hb : placeN q r b = k) (x : Nat) : vI f q r k b 0 x = vK f q r k x := by
  unfold vI
  by_cases h : x = b
  · subst h; rw [if_pos rfl]; unfold vK foM; rw [if_neg (by omega)]
  · rw [if_neg h]
theorem vI_all {f q : Nat → Nat → Bool} {r k b : Nat} (G : Goes f q r) (hbr : b < r) (hb : placeN q r b = k) (x : Nat) : vI f q r k b r x = vK f q r (k + 1) x := by
  unfold vI
  by_cases h : x = b
  · subst h; rw [if_pos rfl, G.fix hbr]; unfold vK; rw [if_pos ⟨hbr, by omega⟩]
  · rw [if_neg h]
    unfold vK
    by_cases hx : x < r ∧ placeN q r x < k
    · rw [if_pos hx, if_pos ⟨hx.1, by omega⟩]
    · rw [if_neg hx, if_neg ?_]
      rintro ⟨h1, h2⟩
      have : placeN q r x ≠ k := fun e => h (G.lin.inj h1 hbr (by omega))
      exact hx ⟨h1, by omega⟩
theorem vI_self (f q : Nat → Nat → Bool) (r k b i : Nat) : vI f q r k b i b = foM f (hiM f r) b i := by unfold vI; rw [if_pos rfl]
theorem vI_ahead {f q : Nat → Nat → Bool} {r k b i : Nat} (G : Goes f q r) (hb : placeN q r b = k) (j : Nat) (hf : f i b = true) : vI f q r k b j i = hiM f r i := by
  obtain ⟨h1, h2, h3⟩ := G.imp _ _ hf
  have hne : i ≠ b := fun e => by subst e; rw [G.lin.irr i h1] at h3; cases h3
  have := G.lin.mono h1 h2 h3
  unfold vI vK
  rw [if_neg hne, if_pos ⟨h1, by omega⟩]
theorem vI_step {f q : Nat → Nat → Bool} {r k b i : Nat} (hf : f i b = true) : (fun x => if x = b then max (foM f (hiM f r) b i) (hiM f r i + 1) else vI f q r k b i x) = vI f q r k b (i + 1) := by
  funext x
  unfold vI
  by_cases h : x = b
  · subst h; rw [if_pos rfl, if_pos rfl, foM, if_pos hf]
  · rw [if_neg h, if_neg h, if_neg h]
theorem vI_skip {f q : Nat → Nat → Bool} {r k b i : Nat} (hf : f i b = false) : vI f q r k b i = vI f q r k b (i + 1) := by
  funext x
  unfold vI
  by_cases h : x = b
  · subst h; rw [if_pos rfl, if_pos rfl, foM, hf]; simp
  · rw [if_neg h, if_neg h]

theorem max_int (y z : Nat) : (if (y : Int) < (z : Int) + 1 then (z : Int) + 1 else (y : Int)) = ((max y (z + 1) : Nat) : Int) := by
  split <;> omega
theorem vK_here {f q : Nat → Nat → Bool} {r k b : Nat} (hbr : b < r) (hb : placeN q r b = k) : vK f q r (k + 1) b = hiM f r b := by unfold vK; rw [if_pos ⟨hbr, by omega⟩]

/-- where the numbers lie -/
def LoSt (w : World) (D : Array Value) (gp : Nat) (L : List Nat) (v : Nat → Nat) (wr : World) : Prop :=
  HeldB wr w.heap.size 49 D ∧ HeldB wr (w.heap.size + 1) 80 (nineC v) ∧ HeldB wr gp 3 (setsV L) ∧ Below w.heap.size w wr
theorem LoSt.put {w : World} {D : Array Value} {gp : Nat} {L : List Nat} {v v' : Nat → Nat} {wr : World} (hgp : gp ≠ w.heap.size + 1) (h : LoSt w D gp L v wr) {b : Nat} (hb : b < 9) (m : Nat) (hv : (fun x => if x = b then m else v x) = v') :
    LoSt w D gp L v' (wr.setCell ⟨w.heap.size + 1, b, none⟩ (.int .i64 (m : Nat))) := by
  subst hv
  exact ⟨h.1.other (by simp) _, (h.2.1.set b _).eq (nineC_put v hb m), h.2.2.1.other hgp _, h.2.2.2.setCell (p := ⟨w.heap.size + 1, b, none⟩) (by simp) _⟩
theorem LoSt.drew {w : World} {D : Array Value} {gp : Nat} {L : List Nat} {v : Nat → Nat} {wr : World} (h : LoSt w D gp L v wr) : LoSt w D gp L v wr.drew := ⟨h.1.drew, h.2.1.drew, h.2.2.1.drew, h.2.2.2.drew⟩

set_option maxRecDepth 100000 in
set_option maxHeartbeats 4000000 in
theorem longest_any (h wd r : Nat) (g : Nat → Nat → Nat) (F : Nat → Nat → Nat → Bool) (way : Nat) (w : World) (hr : r ≤ 9) (hw : way < 2) (G : Goes (F way) (firstQ F) r) :
    Calls Try.prog 28 #[.agg (ordC (planC h wd r g) F), .int .i64 way] w
      fun e w' => e = .returned (.int .i64 (lonQ (F way) (firstQ F) r : Nat)) ∧ Below w.heap.size w w' := by
  have HLI := Lib.hid (fun w => lineFirst_any h wd r g F w hr G.lin.irr)
  have hD2 : (ordC (planC h wd r g) F)[2]? = some (.int .i64 (r : Nat)) := by rw [ordC_lo F (by rw [planC_size]; omega), planC_2]
  have hDF := fun (a b : Nat) (ha : a < 9) (hb : b < 9) => ordC_at (planC_size h wd r g) F hw ha hb
  have HDI := Lib.hid (ord_info (planC_size h wd r g) F)
  have HLL := Lib.hid (lineN_len (firstQ F) r r)
  have HBK := Lib.hid (fun k (hk : k < r) => G.lin.back hk)
  have HZ := Lib.hid zero_nineC
  have HDF := Lib.hid hDF; have HD2 := Lib.hid hD2
  clear hDF hD2
  generalize hq : firstQ F = q at *
  generalize hf : F way = f at *
  have HMF := Lib.hid (fun k (hk : k ≤ r) => moM_few (k := k) G hk)
  have HHL := Lib.hid (fun b (hb : b < r) => G.hi_lt hb)
  have HFF := Lib.hid (fun b i (hb : b < r) (hi : i ≤ r) => foM_few (b := b) (i := i) G hb hi)
  have HV0 := Lib.hid (fun k b (hb : placeN q r b = k) => nineC_same (fun x _ => (vI_zero (f := f) hb x).symm))
  have HVA := Lib.hid (fun k b (hbr : b < r) (hb : placeN q r b = k) => nineC_same (fun x _ => vI_all G hbr hb x))
  have HVI := Lib.hid (fun k b i j (hb : placeN q r b = k) (hfi : f i b = true) => vI_ahead G hb j hfi)
  have HVS := Lib.hid (fun k b i (hfi : f i b = true) => vI_step (q := q) (r := r) (k := k) hfi)
  have HVN := Lib.hid (fun k b i (hfi : f i b = false) => vI_skip (q := q) (r := r) (k := k) hfi)
  have HVH := Lib.hid (fun k b (hbr : b < r) (hb : placeN q r b = k) => vK_here (f := f) hbr hb)
  have HMO := Lib.hid (fun k => show moM f q r (k + 1) = max (moM f q r k) (hiM f r ((lineN q r r).getD k 0) + 1) from rfl)
  have HM0 := Lib.hid (show moM f q r 0 = 0 from rfl)
  have HIM := Lib.hid (fun a b e => (G.imp a b e).1)
  have HLQ := Lib.hid (show lonQ f q r = moM f q r r from rfl)
  have HZ2 := Lib.hid (nineC_same (fun x _ => (vK_zero f q r x).symm))
  clear G hq hf
  generalize ordC (planC h wd r g) F = D at *
  have hB0 := HeldB.new w 49 D
  have hB1 := hB0.alloc (.cells (nineC fun _ => 0) 80)
  have hN1 := HeldB.new (w.alloc (.cells D 49)) 80 (nineC fun _ => 0)
  have hbl := (below_alloc w (.cells D 49)).trans ((below_alloc (w.alloc (.cells D 49)) (.cells (nineC fun _ => 0) 80)).mono (by simp))
  rw [World.size_alloc] at hN1
  generalize nineC (fun _ => 0) = Z at *
  go_enter Try.func28, Try.ntmps28
  go_wp2_with (first
    | (refine wpList_alloc_zero rfl 80 rfl Z HZ.out ?_)
    | (refine wpList_load_row rfl 49 _ rfl w.heap.size rfl 49 D (0, 0) _ hB1 Try.underlying49 rfl HDI.out ?_)
    | (go_at_call 34; refine (HLI.out _).mono ?_; rintro e w3 ⟨⟨gp, hgp, rfl, hP⟩, hb3⟩))
  simp only [World.size_alloc] at hgp
  have st3 : LoSt w D gp (lineN q r r) (vK f q r 0) w3 := ⟨hB1.below hb3, (hN1.below hb3).eq HZ2.out, hP, hbl.trans (hb3.mono (by simp; omega))⟩
  have hgn : gp ≠ w.heap.size + 1 := by omega
  rw [HLL.out]
  clear hB0 hB1 hN1 hP hb3 hbl hgp HLI HZ2
  go_loopw [5, 15] (fun v5 v wr => ∃ k : Nat, k ≤ r ∧ v = .int .i64 k ∧ v5 = .int .i64 (moM f q r k : Nat) ∧ LoSt w D gp (lineN q r r) (vK f q r k) wr) (fun _ v _ => r - (intOf v).toNat)
  case atStart => exact ⟨0, Nat.zero_le _, rfl, by rw [HM0.out]; rfl, st3⟩
  case round =>
    clear st3
    obtain ⟨k, hk, rfl, rfl, hst⟩ := hrel
    by_cases hkr : k < r
    · obtain ⟨hpb, hbr⟩ := HBK.out k hkr
      have k1 : wr.cell? ⟨gp, k, none⟩ = some (.int .i64 ((lineN q r r).getD k 0 : Nat)) := (hst.2.2.1.cell k).trans (setsV_at (by rw [HLL.out]; exact hkr))
      have c2 : wr.cell? ⟨w.heap.size, 2, none⟩ = some (.int .i64 (r : Nat)) := (hst.1.cell 2).trans HD2.out
      have HMS := Lib.hid (HMO.out k)
      generalize (lineN q r r).getD k 0 = b at *
      have hst2 : LoSt w D gp (lineN q r r) (vI f q r k b 0) wr := ⟨hst.1, hst.2.1.eq (HV0.out k b hpb), hst.2.2⟩
      have hkri : (k : Int) < (r : Int) := by omega
      clear hst
      go_wp2
      clear k1 c2
      go_loopw [22] (fun v wr => ∃ i : Nat, i ≤ r ∧ v = .int .i64 i ∧ LoSt w D gp (lineN q r r) (vI f q r k b i) wr) (fun v _ => r - (intOf v).toNat)
      case atStart => exact ⟨0, Nat.zero_le _, rfl, hst2⟩
      case round =>
        clear hst2
        obtain ⟨i, hi, rfl, hst⟩ := hrel
        by_cases hir : i < r
        · have hb9 : b < 9 := by omega
          have hi9 : i < 9 := by omega
          have hb9i : (b : Int) < 9 := by omega
          have hi9i : (i : Int) < 9 := by omega
          have hwi : (way : Int) < 2 := by omega
          have k1 := (hst.1.cell (39 + way * 81 + i * 9 + b)).trans (HDF.out i b hi9 hb9)
          cases hfi : f i b
          · rw [hfi] at k1
            rw [HVN.out k b i hfi] at hst
            go_wp2
            go_roundw
            case rel => exact ⟨i + 1, by omega, by go_num, hst⟩
            case measure => simp [intOf]; omega
          · rw [hfi] at k1
            have k2 := (hst.2.1.cell b).trans (nineC_at hb9)
            have k3 := (hst.2.1.cell i).trans (nineC_at hi9)
            rw [vI_self] at k2
            rw [HVI.out k b i i hpb hfi] at k3
            have f1 := hst.2.1.frozen b
            have hst2 := hst.put hgn hb9 _ (HVS.out k b i hfi)
            have hh1 := HHL.out i hir
            have hh2 := HFF.out b i hbr hi
            generalize foM f (hiM f r) b i = y at *
            generalize hiM f r i = z at *
            clear hst
            go_wp2
            go_region
            rw [max_int]
            go_wp2
            go_roundw
            case rel => exact ⟨i + 1, by omega, by go_num, hst2.drew⟩
            case measure => simp [intOf]; omega
        · obtain rfl : i = r := by omega
          have hst2 : LoSt w D gp (lineN q i i) (vK f q i (k + 1)) wr := ⟨hst.1, hst.2.1.eq (HVA.out k b hbr hpb), hst.2.2⟩
          have hb9 : b < 9 := by omega
          have hb9i : (b : Int) < 9 := by omega
          have k2 := (hst2.2.1.cell b).trans (nineC_at hb9)
          rw [HVH.out k b hbr hpb] at k2
          have hh1 := HHL.out b hbr
          have hm1 := HMF.out k (by omega)
          generalize hiM f i b = z at *
          generalize moM f q i k = y at *
          clear hst
          go_wp2
          rw [max_int]
          go_roundw
          case rel => exact ⟨k + 1, by omega, by go_num, by rw [HMS.out], hst2⟩
          case measure => simp [intOf]; omega
    · obtain rfl : k = r := by omega
      go_wp2
      go_ret
      exact ⟨by rw [HLQ.out]; rfl, hst.2.2.2⟩
end Go.Proofs.Ytiaimcedcjapdaa

/-
  The longest rows of rooms: the model's, and both answers. (Walks.)
-/
namespace Go.Proofs.Ytiaimcedcjapdaa
open Go.RowKit

/-! # numbers that grow round by round -/
structure BeA (G : Nat → Nat) (r t : Nat) (S : List Nat) : Prop where
  len : S.length = r
  up : ∀ a, a < r → S.getD a 0 ≤ G a
  lo : ∀ a, a < r → min t (G a) ≤ S.getD a 0
structure BeI (G : Nat → Nat) (M r t i m : Nat) (S : List Nat) : Prop where
  all : BeA G r t S
  few : m ≤ M
  hi : ∀ a, a < i → min (t + 1) (G a) ≤ S.getD a 0
  mo : ∀ a, a < i → S.getD a 0 ≤ m
structure BeJ (f : Nat → Nat → Bool) (G : Nat → Nat) (M r t i m j : Nat) (S : List Nat) : Prop where
  old : BeI G M r t i m S
  one : 1 ≤ S.getD i 0
  st : ∀ b, b < j → f i b = true → S.getD b 0 + 1 ≤ S.getD i 0
theorem BeI.start {G : Nat → Nat} {M r t m : Nat} {S : List Nat} (h : BeA G r t S) (hm : m ≤ M) : BeI G M r t 0 m S := ⟨h, hm, fun a ha => by omega, fun a ha => by omega⟩
theorem BeI.grow {G : Nat → Nat} {M r t i m : Nat} {S : List Nat} (h : BeI G M r t i m S) (hi : i < r) {v : Nat} (h1 : S.getD i 0 ≤ v) (h2 : v ≤ G i) : BeI G M r t i m (S.set i v) := by
  have hl := h.all.len
  have hs : ∀ a, (S.set i v).getD a 0 = if a = i then v else S.getD a 0 := fun a => getD_set S i a v (by omega)
  refine ⟨⟨by rw [List.length_set]; exact hl, fun a ha => ?_, fun a ha => ?_⟩, h.few, fun a ha => ?_, fun a ha => ?_⟩
  · rw [hs]; split
    · rename_i e; subst e; exact h2
    · exact h.all.up a ha
  · rw [hs]; split
    · rename_i e; subst e; have := h.all.lo a ha; omega
    · exact h.all.lo a ha
  · rw [hs, if_neg (by omega)]; exact h.hi a ha
  · rw [hs, if_neg (by omega)]; exact h.mo a ha
theorem BeI.first {f : Nat → Nat → Bool} {G : Nat → Nat} {M r t i m : Nat} {S : List Nat} (h : BeI G M r t i m S) (hi : i < r) (hG : 1 ≤ G i) : BeJ f G M r t i m 0 (S.set i (max (S.getD i 0) 1)) := by
  have hup := h.all.up i hi
  refine ⟨h.grow hi (by omega) (by omega), ?_, fun b hb => by omega⟩
  rw [getD_set _ _ _ _ (by rw [h.all.len]; exact hi), if_pos rfl]; omega
theorem BeJ.skip {f : Nat → Nat → Bool} {G : Nat → Nat} {M r t i m j : Nat} {S : List Nat} (h : BeJ f G M r t i m j S) (hf : f i j = false) : BeJ f G M r t i m (j + 1) S :=
  ⟨h.old, h.one, fun b hb hfb => by
    by_cases hbj : b = j
    · subst hbj; rw [hf] at hfb; cases hfb
    · exact h.st b (by omega) hfb⟩
theorem BeJ.step {f : Nat → Nat → Bool} {G : Nat → Nat} {M r t i m j : Nat} {S : List Nat} (h : BeJ f G M r t i m j S) (hi : i < r) (hj : j < r) (hirr : ∀ b, f i b = true → b ≠ i) (hf : f i j = true) (hG : G j + 1 ≤ G i) :
    BeJ f G M r t i m (j + 1) (S.set i (max (S.getD i 0) (S.getD j 0 + 1))) := by
  have h1 := h.old.all.up i hi
  have h2 := h.old.all.up j hj
  have hs : ∀ a, (S.set i (max (S.getD i 0) (S.getD j 0 + 1))).getD a 0 = if a = i then max (S.getD i 0) (S.getD j 0 + 1) else S.getD a 0 := fun a => getD_set S i a _ (by rw [h.old.all.len]; exact hi)
  refine ⟨h.old.grow hi (by omega) (by omega), ?_, fun b hb hfb => ?_⟩
  · rw [hs, if_pos rfl]; have := h.one; omega
  · rw [hs, hs, if_pos rfl, if_neg (hirr b hfb)]
    by_cases hbj : b = j
    · subst hbj; omega
    · have := h.st b (by omega) hfb; omega
theorem BeJ.done {f : Nat → Nat → Bool} {G : Nat → Nat} {M r t i m : Nat} {S : List Nat} (h : BeJ f G M r t i m r S) (hi : i < r) (hsome : 2 ≤ G i → ∃ b, b < r ∧ f i b = true ∧ G i ≤ G b + 1) (hM : G i ≤ M) : BeI G M r t (i + 1) (max m (S.getD i 0)) S := by
  have h1 := h.old.all.up i hi
  have h3 := h.one
  have key : min (t + 1) (G i) ≤ S.getD i 0 := by
    rcases Nat.lt_or_ge (G i) 2 with hg | hg
    · omega
    · obtain ⟨b, b1, b2, b3⟩ := hsome hg
      have h4 := h.st b b1 b2
      have h5 := h.old.all.lo b b1
      omega
  refine ⟨h.old.all, by have := h.old.few; omega, fun a ha => ?_, fun a ha => ?_⟩
  · by_cases hai : a = i
    · subst hai; exact key
    · exact h.old.hi a (by omega)
  · by_cases hai : a = i
    · subst hai; omega
    · have := h.old.mo a (by omega); omega
theorem BeI.round {G : Nat → Nat} {M r t m : Nat} {S : List Nat} (h : BeI G M r t r m S) : BeA G r (t + 1) S ∧ ∀ a, a < r → S.getD a 0 ≤ m := ⟨⟨h.all.len, h.all.up, h.hi⟩, h.mo⟩

theorem max_one (y : Nat) : (if (y : Int) < 1 then (1 : Int) else (y : Int)) = ((max y 1 : Nat) : Int) := by split <;> omega
theorem max_int1 (y z : Nat) : (if (y : Int) < 1 + (z : Int) then 1 + (z : Int) else (y : Int)) = ((max y (z + 1) : Nat) : Int) := by split <;> omega
theorem max_int0 (y z : Nat) : (if y < z then (z : Int) else (y : Int)) = ((max y z : Nat) : Int) := by split <;> omega

set_option maxRecDepth 100000 in
set_option maxHeartbeats 4000000 in
theorem l5Longest_any (gs r : Nat) (S0 : List Nat) (f q : Nat → Nat → Bool) (w : World) (hr : r ≤ 9) (hr1 : 1 ≤ r) (G : Goes f q r) (his : IsSets S0 r f) (hB0 : HeldB w gs 3 (setsV S0)) :
    Calls Try.prog 29 #[.slice (some ⟨gs, 0, none⟩) S0.length S0.length] w
      fun e w' => e = .returned (.int .i64 (lonQ f q r : Nat)) ∧ Below w.heap.size w w' := by
  rw [his.len]
  have HBIT := Lib.hid (fun (x y : Nat) (hx : x < r) => show (bits .and .i64 (((S0.getD x 0 : Nat) : Int) / 2 ^ y) 1 == 1) = f x y by
    rw [← his.bit x y hx]; exact bit_i64 _ y (his.low x hx))
  have HCEL := Lib.hid (fun (x : Nat) (hx : x < r) => show (setsV S0)[x]? = some (.int .i64 ((S0.getD x 0 : Nat) : Int)) from setsV_at (by rw [his.len]; exact hx))
  have HG1 := Lib.hid (fun a => loM_pos f r a)
  have HGS := Lib.hid (fun a b (hf : f a b = true) => G.lo_step hf)
  have HGO := Lib.hid (fun a (ha : a < r) (h : 2 ≤ loM f r a) => G.lo_some ha h)
  have HGM := Lib.hid (fun a (ha : a < r) => G.lo_le ha)
  have HM := Lib.hid G.long_le
  have HIS := Lib.hid (G.lo_is hr1)
  have HIR := Lib.hid (fun a b (hf : f a b = true) => show b ≠ a from fun e => by
    subst e
    obtain ⟨h1, _, h3⟩ := G.imp _ _ hf
    rw [G.lin.irr b h1] at h3; cases h3)
  clear G his
  generalize loM f r = H at *
  generalize lonQ f q r = M at *
  obtain ⟨im, hmi, hmz, hm1, hm2⟩ := info_parts Try.infoNum
  go_enter Try.func29, Try.ntmps29
  go_wp2_with (at_make; refine wpList_make_full _ rfl _ _ 25 rfl w.heap.size 3 im (.int .i64 0) 1 Try.underlying25 hmi hmz hm1 .i64 .i64 _ _ r rfl rfl rfl rfl ?d2 ?d3 (Nat.le_refl _) ?_; rotate_left 2; intro w3 ho3 hg3; have hb3 : Below w.heap.size w w3 := below_of_grownBy hg3 (Nat.le_refl _) (fun k hk => by cases hk); have hz := held_zeros ho3)
  case d2 => rw [hm2]; omega
  case d3 => unfold maxLen; omega
  have hgn : gs ≠ w.heap.size := by have := hB0.lt; omega
  have st3 : PeSt w gs w.heap.size S0 (List.replicate r 0) w3 := ⟨hB0.below hb3, hz, hb3⟩
  have be3 : BeA H r 0 (List.replicate r 0) := ⟨List.length_replicate, fun a ha => by simp [ha], fun a ha => by simp⟩
  clear hz hB0 hb3 ho3 hg3
  go_loopw [4, 5] (fun v4 v5 wr => ∃ t : Nat, t ≤ r ∧ v5 = .int .i64 t ∧ ∃ (m : Nat) (S : List Nat), v4 = .int .i64 m ∧ m ≤ M ∧ PeSt w gs w.heap.size S0 S wr ∧ BeA H r t S ∧ (1 ≤ t → ∀ a, a < r → S.getD a 0 ≤ m)) (fun _ v _ => r - (intOf v).toNat)
  case atStart => exact ⟨0, Nat.zero_le _, rfl, 0, _, rfl, Nat.zero_le _, st3, be3, fun h => by omega⟩
  case round =>
    clear st3 be3
    obtain ⟨t, ht, rfl, m, S, rfl, hm, hst, hbe, hmo⟩ := hrel
    have hM9 := HM.out
    by_cases htr : t < r
    · have hbi := BeI.start hbe hm
      clear hbe hmo hm
      go_wp2
      go_loopw [4, 6] (fun v4 v6 wr => ∃ i : Nat, i ≤ r ∧ v6 = .int .i64 i ∧ ∃ (m : Nat) (S : List Nat), v4 = .int .i64 m ∧ PeSt w gs w.heap.size S0 S wr ∧ BeI H M r t i m S) (fun _ v _ => r - (intOf v).toNat)
      case atStart => exact ⟨0, Nat.zero_le _, rfl, m, S, rfl, hst, hbi⟩
      case round =>
        clear hst hbi

        obtain ⟨i, hi, rfl, m, S, rfl, hst, hbi⟩ := hrel
        by_cases hir : i < r
        · have hl := hbi.all.len
          have k1 := (hst.2.1.cell i).trans (setsV_at (S := S) (by rw [hl]; exact hir))
          have f1 := hst.2.1.frozen i
          have hu := hbi.all.up i hir
          have hgm := HGM.out i hir
          have hbj := BeI.first (f := f) hbi hir (HG1.out i)
          have hiri : (i : Int) < (r : Int) := by omega
          have HST := Lib.hid (fun (mm : Nat) => hst.put (T := S.set i mm) hgn (Nat.le_refl _) i mm rfl)
          obtain ⟨mm, hmm⟩ : ∃ mm, mm = max (S.getD i 0) 1 := ⟨_, rfl⟩
          rw [← hmm] at hbj
          have hst3 := HST.out mm
          obtain ⟨y, hy⟩ : ∃ y, y = S.getD i 0 := ⟨_, rfl⟩
          rw [← hy] at k1 hmm hu
          have HMX := Lib.hid (show (if (y : Int) < 1 then (1 : Int) else (y : Int)) = (mm : Int) by rw [max_one, hmm])
          clear hst hbi hl hy HST HMX
          rcases (show (y = 0 ∧ mm = 1) ∨ (1 ≤ y ∧ mm = y) by omega) with ⟨rfl, rfl⟩ | ⟨hy1, rfl⟩
          all_goals
            have hyi : (1 : Int) ≤ (1 : Int) := Int.le_refl _
            clear hmm
            try rw [show ((1 : Nat) : Int) = 1 from rfl] at hst3
            try have hyj : (1 : Int) ≤ (mm : Int) := by omega
            go_wp2
            try (exfalso; omega)
            go_loopw [7] (fun v7 wr => ∃ j : Nat, j ≤ r ∧ v7 = .int .i64 j ∧ ∃ S : List Nat, PeSt w gs w.heap.size S0 S wr ∧ BeJ f H M r t i m j S) (fun v _ => r - (intOf v).toNat)
            case atStart => exact ⟨0, Nat.zero_le _, rfl, _, hst3, hbj⟩
            case round =>
              clear hst3 hbj k1 f1 hu
              obtain ⟨j, hj, rfl, S, hst, hbj⟩ := hrel
              by_cases hjr : j < r
              · have hl := hbj.old.all.len
                have c1 := (hst.1.cell i).trans (HCEL.out i hir)
                have t1 := HBIT.out i j hir
                have hjri : (j : Int) < (r : Int) := by omega
                generalize S0.getD i 0 = z at *
                cases hf : f i j
                · rw [hf] at t1
                  have hbj2 := hbj.skip hf
                  clear hbj
                  go_wp2
                  go_roundw
                  case rel => exact ⟨j + 1, by omega, by go_num, S, hst, hbj2⟩
                  case measure => simp [intOf]; omega
                · rw [hf] at t1
                  have k1 := (hst.2.1.cell i).trans (setsV_at (S := S) (by rw [hl]; exact hir))
                  have k2 := (hst.2.1.cell j).trans (setsV_at (S := S) (by rw [hl]; exact hjr))
                  have f1 := hst.2.1.frozen i
                  have hu1 := hbj.old.all.up i hir
                  have hu2 := hbj.old.all.up j hjr
                  have hg1 := HGM.out i hir
                  have hg2 := HGM.out j hjr
                  have hbj2 := hbj.step hir hjr (fun b hb => HIR.out i b hb) hf (HGS.out i j hf)
                  have HST := Lib.hid (fun (mm : Nat) => hst.put (T := S.set i mm) hgn (Nat.le_refl _) i mm rfl)
                  obtain ⟨mm, hmm⟩ : ∃ mm, mm = max (S.getD i 0) (S.getD j 0 + 1) := ⟨_, rfl⟩
                  rw [← hmm] at hbj2
                  have hst3 := HST.out mm
                  obtain ⟨y, hy⟩ : ∃ y, y = S.getD i 0 := ⟨_, rfl⟩
                  obtain ⟨x, hx⟩ : ∃ x, x = S.getD j 0 := ⟨_, rfl⟩
                  rw [← hy] at k1 hmm hu1
                  rw [← hx] at k2 hmm hu2
                  have HMX := Lib.hid (show (if (y : Int) < 1 + (x : Int) then 1 + (x : Int) else (y : Int)) = (mm : Int) by rw [max_int1, hmm])
                  clear hst hbj hl hy hx hmm HST
                  go_wp2
                  go_region
                  rw [HMX.out]
                  go_wp2
                  go_roundw
                  case rel => exact ⟨j + 1, by omega, by go_num, _, ⟨hst3.1.drew, hst3.2.1.drew, hst3.2.2.drew⟩, hbj2⟩
                  case measure => simp [intOf]; omega
              · obtain rfl : j = r := by omega
                have hl := hbj.old.all.len
                have k1 := (hst.2.1.cell i).trans (setsV_at (S := S) (by rw [hl]; exact hir))
                have hfm := hbj.old.few
                have hu := hbj.old.all.up i hir
                have hgm := HGM.out i hir
                have hbi2 := hbj.done hir (fun h2 => HGO.out i hir h2) hgm
                obtain ⟨y, hy⟩ : ∃ y, y = S.getD i 0 := ⟨_, rfl⟩
                rw [← hy] at k1 hbi2 hu
                obtain ⟨mm, hmm⟩ : ∃ mm, mm = max m y := ⟨_, rfl⟩
                rw [← hmm] at hbi2
                have HMX := Lib.hid (show (if m < y then (y : Int) else (m : Int)) = (mm : Int) by rw [max_int0, hmm])
                clear hbj hl hy hmm
                go_wp2
                rw [HMX.out]
                go_roundw
                case rel => exact ⟨i + 1, by omega, by go_num, mm, S, rfl, hst, hbi2⟩
                case measure => simp [intOf]; omega
        · obtain rfl : i = r := by omega
          have hfm := hbi.few
          obtain ⟨hb1, hb2⟩ := hbi.round
          clear hbi
          go_wp2
          go_roundw
          case rel => exact ⟨t + 1, by omega, by go_num, m, S, rfl, hfm, hst, hb1, fun _ => hb2⟩
          case measure => simp [intOf]; omega
    · obtain rfl : t = r := by omega
      have hfin : m = M := by
        obtain ⟨a, ha, hMa⟩ := HIS.out
        have h1 := hbe.lo a ha
        have h2 := hmo hr1 a ha
        have h3 := HGM.out a ha
        omega
      subst hfin
      clear hbe hmo
      go_wp2
      go_ret
      exact ⟨rfl, hst.2.2⟩
end Go.Proofs.Ytiaimcedcjapdaa

/-
  The longest rows of rooms: both answers. (Walks.)
-/
namespace Go.Proofs.Ytiaimcedcjapdaa
open Go.RowKit

theorem pL_goes {p : List ByteArray} (h : plainB p = true) {way : Nat} (hw : way < 2) : Goes (pL p way) (firstQ (pL p)) (gridR p) := by
  refine ⟨first_lin h, fun a b hab => ?_⟩
  obtain ⟨h1, h2⟩ := wars_in (justG_in (h := p.length) (wd := wideB p) (r := gridR p) (g := gridG p) (fun _ _ hi hj => gridG_lt hi hj) way) (gridR p) a b hab
  refine ⟨h1, h2, ?_⟩
  unfold firstQ
  rcases (show way = 0 ∨ way = 1 by omega) with rfl | rfl
  · rw [hab]; rfl
  · rw [hab, Bool.or_true]
theorem goesP (p : List ByteArray) {way : Nat} (hw : way < 2) : Goes (oF p way) (firstQ (oF p)) (oR p) := by
  cases h : plainB p
  · rw [oR_no h, show oF p = noF by unfold oF; rw [h]; rfl]
    exact ⟨⟨fun a ha => by omega, fun a b ha => by omega, fun a b c ha => by omega⟩, fun a b hab => by cases hab⟩
  · rw [oR_yes h, oF_yes h]; exact pL_goes h hw
def longP (p : List ByteArray) (way : Nat) : Nat := lonQ (oF p way) (firstQ (oF p)) (oR p)
theorem longP_no {p : List ByteArray} (h : plainB p = false) (way : Nat) : longP p way = 0 := by
  unfold longP; rw [oR_no h]; rfl
theorem longP_yes {p : List ByteArray} (h : plainB p = true) (way : Nat) : longP p way = lonQ (pL p way) (firstQ (pL p)) (gridR p) := by
  unfold longP; rw [oR_yes h, oF_yes h]
theorem longestP_any (p : List ByteArray) (way : Nat) (w : World) (hw : way < 2) : Calls Try.prog 28 #[.agg (ordP p), .int .i64 way] w
      fun e w' => e = .returned (.int .i64 (longP p way : Nat)) ∧ Below w.heap.size w w' := longest_any (oH p) (oW p) (oR p) (oG p) (oF p) way w (oR_le p) hw (goesP p hw)

set_option maxRecDepth 100000 in
set_option maxHeartbeats 4000000 in
theorem implOrderLong_any (ao : Option Addr) (cap : Nat) (p : List ByteArray) (w : World) (hl : p.length ≤ 1048576) (hs : ∀ s ∈ p, s.size ≤ 1048576) (hc : CellsAt w ao (p.map Value.string)) :
    Calls Try.prog 13 #[.slice ao p.length cap] w fun e w' => e = .returned (.tuple #[.int .i64 (longP p 0 : Nat), .int .i64 (longP p 1 : Nat), .bool (plainB p)]) ∧ Below w.heap.size w w' := by
  have HZ0 := Lib.hid zero_ordC
  have HZS := Lib.hid (show (ordC zeroC noF).size = 201 from ordC_size (planC_size _ _ _ _) _)
  have HRO := Lib.hid (fun w hc => readOrder_any ao cap p w hl hs hc)
  have HA := Lib.hid (fun w => longestP_any p 0 w (by omega))
  have HB := Lib.hid (fun w => longestP_any p 1 w (by omega))
  have HI := Lib.hid (ordP_info p)
  have HS := Lib.hid (ordP_size p)
  have H1 := Lib.hid (ordP_one p)
  change Hid (∀ w, Calls _ _ #[.agg (ordP p), .int .i64 0] w _) at HA
  change Hid (∀ w, Calls _ _ #[.agg (ordP p), .int .i64 1] w _) at HB
  generalize longP p 0 = x at *
  generalize longP p 1 = y at *
  generalize ordP p = D at *
  generalize plainB p = ok at *
  generalize ordC zeroC noF = Z at *
  go_enter Try.func13, Try.ntmps13
  go_wp2_with (first
    | (refine wpList_alloc_zero rfl 49 rfl Z HZ0.out ?_)
    | (refine wpList_store_new rfl 49 _ _ rfl _ Z D rfl rfl rfl HI.out (by rw [HZS.out, HS.out]) H1.out ?_)
    | (go_at_call 22; refine (HRO.out _ hc).mono ?_; rintro e w1 ⟨rfl, hb1⟩; have hbD := HeldB.new w1 49 D))
  have hB2 : Below w.heap.size w (w1.alloc (.cells D 49)) := below_step hb1 hb1.size (below_alloc w1 (.cells D 49))
  generalize w1.alloc (.cells D 49) = W2 at *
  generalize w1.heap.size = B1 at *
  clear hb1 hc HRO
  refine wp_region_held (S := fun w' => HeldB w' B1 49 D) (by kernel_rfl) ?_
  have hBd : Below w.heap.size w ({ W2 with drawn := W2.drawn + 1 } : World) := hB2.trans (below_drewN _ W2 1)
  have hS : HeldB ({ W2 with drawn := W2.drawn + 1 } : World) B1 49 D := hbD
  generalize ({ W2 with drawn := W2.drawn + 1 } : World) = W3 at *
  clear hbD hB2
  change Go.wpAnyH Try.prog Region.Mode.any _ _ _ 8 (Array.replicate 8 false) _ _
  refine wpAnyH_take (i := 0) (v := .agg D) rfl (by kernel_rfl) (by kernel_rfl) (by kernel_rfl) (fun _ _ _ h => h) (yieldsIf_load_row (by kernel_rfl) 49 _ rfl B1 (by rfl) 49 D _ (fun _ h => h) Try.underlying49 rfl HI.out) hS ?_
  refine wpAnyH_take (i := 2) (v := .agg D) rfl (by kernel_rfl) (by kernel_rfl) (by kernel_rfl) (fun _ _ _ h => h) (yieldsIf_load_row (by kernel_rfl) 49 _ rfl B1 (by rfl) 49 D _ (fun _ h => h) Try.underlying49 rfl HI.out) hS ?_
  refine wpAnyH_take (i := 4) (v := .bool ok) rfl (by kernel_rfl) (by kernel_rfl) (by kernel_rfl) (fun _ _ _ h => h) (Yields.yieldsIf (Or.inl ⟨by rfl, fun w => by go_simp⟩)) hS ?_
  refine wpAnyH_all (rs := [1]) (by kernel_rfl) (by decide) ?_
  intro i hi
  simp only [List.mem_cons, List.not_mem_nil, or_false] at hi
  subst hi
  refine wpOp_go rfl (by rfl) ?_
  unfold Oper.wp
  go_simp
  refine (HA.out _).mono ?_
  rintro e w3 ⟨rfl, hb3⟩
  have hS3 := hS.below hb3
  have hB3 := below_step hBd hBd.size hb3
  refine ⟨hS3, ?_⟩
  refine wpAnyH_all (rs := [3]) (by kernel_rfl) (by decide) ?_
  intro i hi
  simp only [List.mem_cons, List.not_mem_nil, or_false] at hi
  subst hi
  refine wpOp_go rfl (by rfl) ?_
  unfold Oper.wp
  go_simp
  refine (HB.out _).mono ?_
  rintro e w4 ⟨rfl, hb4⟩
  have hS4 := hS3.below hb4
  have hB4 := below_step hB3 hB3.size hb4
  refine ⟨hS4, ?_⟩
  refine wpAnyH_take (i := 5) (v := .int .i64 (x : Nat)) rfl (by kernel_rfl) (by kernel_rfl) (by kernel_rfl) (fun _ _ _ h => h) (Yields.yieldsIf (Or.inl ⟨by rfl, fun w => by go_simp⟩)) hS4 ?_
  refine wpAnyH_take (i := 6) (v := .int .i64 (y : Nat)) rfl (by kernel_rfl) (by kernel_rfl) (by kernel_rfl) (fun _ _ _ h => h) (Yields.yieldsIf (Or.inl ⟨by rfl, fun w => by go_simp⟩)) hS4 ?_
  refine wpAnyH_take (i := 7) (v := .bool ok) rfl (by kernel_rfl) (by kernel_rfl) (by kernel_rfl) (fun _ _ _ h => h) (Yields.yieldsIf (Or.inl ⟨by rfl, fun w => by go_simp⟩)) hS4 ?_
  refine wpAnyH_done (by kernel_rfl) ?_ _
  go_wp2
  refine bodyPost_ret (v := .tuple #[.int .i64 (x : Nat), .int .i64 (y : Nat), .bool ok]) (by simp [results, Try.results13, go_sem]) rfl ⟨rfl, hB4⟩

set_option maxRecDepth 100000 in
set_option maxHeartbeats 4000000 in
theorem specOrderLong_any (ao : Option Addr) (cap : Nat) (p : List ByteArray) (w : World) (hl : p.length ≤ 1048576) (hs : ∀ s ∈ p, s.size ≤ 1048576) (hc : CellsAt w ao (p.map Value.string)) :
    Calls Try.prog 14 #[.slice ao p.length cap] w fun e w' => e = .returned (.tuple #[.int .i64 (longP p 0 : Nat), .int .i64 (longP p 1 : Nat), .bool (plainB p)]) ∧ Below w.heap.size w w' := by
  have HP := Lib.hid (fun w hc => l5Plain_any ao cap p w hl hs hc)
  cases hpl : plainB p
  · rw [hpl] at HP
    rw [longP_no hpl, longP_no hpl]
    go_enter Try.func14, Try.ntmps14
    go_wp2_with (go_at_call 24; refine (HP.out _ hc).mono ?_; rintro e w1 ⟨rfl, hb1⟩)
    refine bodyPost_ret (v := .tuple #[.int .i64 0, .int .i64 0, .bool false]) (by simp [results, Try.results14, go_sem]) rfl ⟨rfl, hb1⟩
  · rw [hpl] at HP
    rw [longP_yes hpl, longP_yes hpl]
    have HA := Lib.hid (fun w hc => l5AllP_any ao cap p 0 w hl hs (plainB_plan hpl) hc)
    have HB := Lib.hid (fun w hc => l5AllP_any ao cap p 1 w hl hs (plainB_plan hpl) hc)
    change Hid (∀ w _, Calls _ _ #[.slice ao p.length cap, .int .i64 0] w _) at HA
    change Hid (∀ w _, Calls _ _ #[.slice ao p.length cap, .int .i64 1] w _) at HB
    have hr9 := (planP_of (plainB_plan hpl)).few
    have hr1 : 1 ≤ gridR p := by
      have hP := planP_of (plainB_plan hpl)
      have h := gridG_lt (p := p) (i := 0) (j := 0) (by have := hP.grid.h1; omega) (by have := hP.grid.w1; omega)
      omega
    have HL := Lib.hid (fun (gs : Nat) (S0 : List Nat) (w : World) his hB0 => l5Longest_any gs (gridR p) S0 (pL p 0) (firstQ (pL p)) w hr9 hr1 (pL_goes hpl (by omega)) his hB0)
    have HM := Lib.hid (fun (gs : Nat) (S0 : List Nat) (w : World) his hB0 => l5Longest_any gs (gridR p) S0 (pL p 1) (firstQ (pL p)) w hr9 hr1 (pL_goes hpl (by omega)) his hB0)
    generalize lonQ (pL p 0) (firstQ (pL p)) (gridR p) = x at *
    generalize lonQ (pL p 1) (firstQ (pL p)) (gridR p) = y at *
    generalize pL p 0 = f at *
    generalize pL p 1 = g at *
    generalize gridR p = r at *
    clear hl hs hpl
    go_enter Try.func14, Try.ntmps14
    go_wp2_with (first
      | (go_at_call 24; refine (HP.out _ hc).mono ?_; rintro e w1 ⟨rfl, hb1⟩; have hc1 := hc.below hb1)
      | (go_at_call 30; refine (HA.out _ hc1).mono ?_; rintro e w2 ⟨⟨S, his, g5, hg5, rfl, hB⟩, hb2⟩; have hc2 := hc1.below hb2; clear HA)
      | (go_at_call 29; refine (HL.out g5 S _ his hB).mono ?_; rintro e w3 ⟨rfl, hb3⟩; have hc3 := hc2.below hb3; clear HL)
      | (go_at_call 30; refine (HB.out _ hc3).mono ?_; rintro e w4 ⟨⟨T, hit, g6, hg6, rfl, hB2⟩, hb4⟩; clear HB)
      | (go_at_call 29; refine (HM.out g6 T _ hit hB2).mono ?_; rintro e w5 ⟨rfl, hb5⟩))
    have s1 := hb1.size
    have s2 := hb2.size
    have s3 := hb3.size
    have s4 := hb4.size
    refine bodyPost_ret (v := .tuple #[.int .i64 (x : Nat), .int .i64 (y : Nat), .bool true]) (by simp [results, Try.results14, go_sem]) rfl ⟨rfl, (((hb1.trans (hb2.mono (by omega))).trans (hb3.mono (by omega))).trans (hb4.mono (by omega))).trans (hb5.mono (by omega))⟩
end Go.Proofs.Ytiaimcedcjapdaa
