
/-
  Merged texts: OrdST OrdYZ OrdAB.
-/
import Derived.Test.YtjdlapcikpmdgaaOrdPX
import Derived.Test.YtjdlapcikpmdgaaSideS
import Derived.Test.YtjdlapcikpmdgaaLong
import Derived.Test.YtjdlapcikpmdgaaNums
import Derived.Test.YtjdlapcikpmdgaaPoint
import Derived.BigRegion
import Derived.Lib.AppendZeros

/-
  Merged texts: OrdS OrdT OrdU.
-/
/-
  The model's sets of rooms: as numbers whose bits tell the rooms. (Plain mathematics, and walks.)
-/
namespace Go.Proofs.Ytjdlapcikpmdgaa
open Go.RowKit

/-! # sets as numbers -/
def setsV (S : List Nat) : Array Value := (S.map fun m => Value.int .i64 ((m : Nat) : Int)).toArray
theorem setsV_size (S : List Nat) : (setsV S).size = S.length := by simp [setsV]
theorem setsV_at {S : List Nat} {i : Nat} (h : i < S.length) : (setsV S)[i]? = some (.int .i64 ((S.getD i 0 : Nat) : Int)) := by simp [setsV, h]
theorem setsV_put (S : List Nat) (i m : Nat) : (setsV S).setIfInBounds i (.int .i64 (m : Nat)) = setsV (S.set i m) := by
  unfold setsV; rw [List.map_set]; simp
structure IsSets (S : List Nat) (n : Nat) (f : Nat → Nat → Bool) : Prop where
  len : S.length = n
  low : ∀ a, a < n → S.getD a 0 < 512
  bit : ∀ a b, a < n → (S.getD a 0).testBit b = f a b
theorem IsSets.same {S : List Nat} {n : Nat} {f f' : Nat → Nat → Bool} (h : IsSets S n f) (he : ∀ a b, a < n → f a b = f' a b) : IsSets S n f' :=
  ⟨h.len, h.low, fun a b ha => by rw [h.bit a b ha, he a b ha]⟩
theorem sets_zero {n : Nat} {f : Nat → Nat → Bool} (hf : ∀ a b, f a b = false) : IsSets (List.replicate n 0) n f :=
  ⟨List.length_replicate, fun a ha => by simp [ha], fun a b ha => by rw [hf]; simp [ha]⟩
theorem getD_set (S : List Nat) (i a m : Nat) (hi : i < S.length) : (S.set i m).getD a 0 = if a = i then m else S.getD a 0 := by
  rw [List.getD_eq_getElem?_getD, List.getElem?_set, List.getD_eq_getElem?_getD]
  by_cases h : a = i
  · subst h; simp [hi]
  · rw [if_neg (fun e => h e.symm), if_neg h]
/-- a room told -/
theorem IsSets.put {S : List Nat} {n : Nat} {f f' : Nat → Nat → Bool} (h : IsSets S n f) {x y : Nat} (hx : x < n) (hy : y < 9) (hf : ∀ a b, f' a b = if a = x ∧ b = y then true else f a b) : IsSets (S.set x (S.getD x 0 ||| 2 ^ y)) n f' := by
  have hl := h.len
  refine ⟨by rw [List.length_set]; exact hl, fun a ha => ?_, fun a b ha => ?_⟩
  · rw [getD_set _ _ _ _ (by omega)]
    split
    · have : 2 ^ y < 2 ^ 9 := Nat.pow_lt_pow_right (by omega) hy
      exact Nat.or_lt_two_pow (n := 9) (h.low x hx) this
    · exact h.low a ha
  · rw [getD_set _ _ _ _ (by omega), hf]
    by_cases hax : a = x
    · subst hax
      rw [if_pos rfl, Nat.testBit_or, h.bit a b ha, Nat.testBit_two_pow]
      by_cases hb : y = b
      · subst hb; rw [if_pos ⟨rfl, rfl⟩]; simp
      · rw [if_neg (fun e => hb e.2.symm), decide_eq_false hb, Bool.or_false]
    · rw [if_neg hax, if_neg (fun e => hax e.1)]
      exact h.bit a b ha
/-- a set taken in -/
theorem IsSets.join {S : List Nat} {n : Nat} {f f' : Nat → Nat → Bool} (h : IsSets S n f) {x y : Nat} (hx : x < n) (hy : y < n) (hf : ∀ a b, f' a b = if a = x then f x b || f y b else f a b) : IsSets (S.set x (S.getD x 0 ||| S.getD y 0)) n f' := by
  have hl := h.len
  refine ⟨by rw [List.length_set]; exact hl, fun a ha => ?_, fun a b ha => ?_⟩
  · rw [getD_set _ _ _ _ (by omega)]
    split
    · exact Nat.or_lt_two_pow (n := 9) (h.low x hx) (h.low y hy)
    · exact h.low a ha
  · rw [getD_set _ _ _ _ (by omega), hf]
    by_cases hax : a = x
    · subst hax
      rw [if_pos rfl, if_pos rfl, Nat.testBit_or, h.bit a b ha, h.bit y b hy]
    · rw [if_neg hax, if_neg hax]
      exact h.bit a b ha

/-- small numbers put together -/
theorem or_i64 (a b : Nat) (ha : a < 4294967296) (hb : b < 4294967296) : bits .or .i64 (a : Int) (b : Int) = ((a ||| b : Nat) : Int) := by
  have hx : a ||| b < 2 ^ 32 := Nat.or_lt_two_pow (by omega) (by omega)
  have h1 : (BitVec.ofInt 64 (a : Int)).toNat = a := by
    rw [BitVec.ofInt_natCast, BitVec.toNat_ofNat]; exact Nat.mod_eq_of_lt (by omega)
  have h2 : (BitVec.ofInt 64 (b : Int)).toNat = b := by
    rw [BitVec.ofInt_natCast, BitVec.toNat_ofNat]; exact Nat.mod_eq_of_lt (by omega)
  show IntKind.i64.wrap ((BitVec.ofInt 64 (a : Int) ||| BitVec.ofInt 64 (b : Int)).toNat : Int) = _
  rw [BitVec.toNat_or, h1, h2]
  simp [IntKind.wrap, IntKind.bits, IntKind.signed]
  omega
theorem and_i64 (a b : Nat) (ha : a < 4294967296) (hb : b < 4294967296) : bits .and .i64 (a : Int) (b : Int) = ((a &&& b : Nat) : Int) := by
  have hx : a &&& b < 2 ^ 32 := Nat.and_lt_two_pow _ (by omega)
  have h1 : (BitVec.ofInt 64 (a : Int)).toNat = a := by
    rw [BitVec.ofInt_natCast, BitVec.toNat_ofNat]; exact Nat.mod_eq_of_lt (by omega)
  have h2 : (BitVec.ofInt 64 (b : Int)).toNat = b := by
    rw [BitVec.ofInt_natCast, BitVec.toNat_ofNat]; exact Nat.mod_eq_of_lt (by omega)
  show IntKind.i64.wrap ((BitVec.ofInt 64 (a : Int) &&& BitVec.ofInt 64 (b : Int)).toNat : Int) = _
  rw [BitVec.toNat_and, h1, h2]
  simp [IntKind.wrap, IntKind.bits, IntKind.signed]
  omega
/-- one bit of a small number -/
theorem bit_i64 (m b : Nat) (hm : m < 512) : (bits .and .i64 ((m : Int) / 2 ^ b) 1 == 1) = m.testBit b := by
  have e1 : (m : Int) / 2 ^ b = ((m / 2 ^ b : Nat) : Int) := by
    simp
  have e2 := and_i64 (m / 2 ^ b) 1 (Nat.lt_of_le_of_lt (Nat.div_le_self _ _) (by omega)) (by omega)
  rw [e1]
  change (bits .and .i64 ((m / 2 ^ b : Nat) : Int) ((1 : Nat) : Int) == 1) = _
  rw [e2, Nat.and_one_is_mod, Nat.testBit_eq_decide_div_mod_eq]
  rw [Bool.eq_iff_iff, beq_iff_eq, decide_eq_true_eq]
  omega
end Go.Proofs.Ytjdlapcikpmdgaa

/-
  The model's rooms just led to. (Walk.)
-/
namespace Go.Proofs.Ytjdlapcikpmdgaa
open Go.RowKit

/-- walls as rows, of a base on -/
def WRows (w : World) (base : Nat) (ro : Option Addr) (L : List Wl) : Prop :=
  ∀ k, k < L.length → ∃ bb off gg cc, ro = some ⟨bb, off, none⟩ ∧ w.cell? ⟨bb, off + k, none⟩ = some (.slice (some ⟨gg, 0, none⟩) 4 cc) ∧ CellsAt w (some ⟨gg, 0, none⟩) ((wlN (L.getD k zeroWl)).map (Value.int .i64)) ∧ base ≤ bb ∧ base ≤ gg ∧ bb < w.heap.size ∧ gg < w.heap.size
theorem wrows_of {w : World} {base : Nat} {uo : Option Addr} {uc : Nat} {L : List Wl} {us : List Value} (h : RowsAt w base uo uc (L.map wlN) us) : WRows w base uo L := fun k hk => by
  have hl : k < (L.map wlN).length := by rw [List.length_map]; exact hk
  obtain ⟨bb, off, g, c, h1, h2, h3, h4⟩ := h.row hl (by rw [wlN_getD hk]; exact Nat.succ_pos _)
  rw [wlN_getD hk] at h2 h3
  exact ⟨bb, off, g, c, h1, h2, h3, h4⟩
theorem WRows.grown {w w' : World} {base : Nat} {ro : Option Addr} {L : List Wl} (h : WRows w base ro L) {row : Option Nat} (hg : w.grownBy w' row) (hr : ∀ k, row = some k → k < base ∨ w.heap.size ≤ k) : WRows w' base ro L := fun k hk => by
  obtain ⟨bb, off, gg, cc, h1, h2, h3, h4, h5, h6, h7⟩ := h k hk
  have n1 : some bb ≠ row := fun e => by have := hr bb e.symm; omega
  have n2 : some gg ≠ row := fun e => by have := hr gg e.symm; omega
  exact ⟨bb, off, gg, cc, h1, hg.cell h2 n1, h3.grown hg (fun a ha => by cases ha; exact n2), h4, h5, Nat.lt_of_lt_of_le h6 hg.size, Nat.lt_of_lt_of_le h7 hg.size⟩
theorem WRows.below {w w' : World} {base : Nat} {ro : Option Addr} {L : List Wl} (h : WRows w base ro L) (hb : Below w.heap.size w w') : WRows w' base ro L := h.grown (grownBy_of_below hb none) (fun k hk => by cases hk)
theorem gbCell (w : World) (b i : Nat) (v : Value) : w.grownBy (w.setCell ⟨b, i, none⟩ v) (some b) :=
  ⟨rfl, rfl, rfl, (KeepsWalks.setCell w _ v).size, fun k _ hk => Below.heap_setCell _ _ _ k (fun e => hk (by rw [e]))⟩
/-- numbers made, all nought -/
theorem held_zero {w : World} {base g n : Nat} (h : w.ownsRow base 3 1 (.slice (some ⟨g, 0, none⟩) n n) n (madeCells (Value.int .i64 0).cells (n * 1)).toList) (hn : 0 < n) : HeldB w g 3 (setsV (List.replicate n 0)) := by
  rw [show (.int .i64 0 : Value).cells = #[.int .i64 0] from rfl, Nat.mul_one, toList_madeCells_one] at h
  rcases h.2 with ⟨hv, h0⟩ | ⟨g', cap', cur, hv, hb, hg, h1, h2, h3, h4⟩
  · omega
  · simp only [Value.slice.injEq, Option.some.injEq, Addr.mk.injEq, and_true, true_and] at hv
    obtain ⟨rfl, rfl⟩ := hv
    rw [Nat.mul_one] at h3 h4
    rw [List.take_of_length_le (by rw [Array.length_toList]; omega)] at h4
    have hcur : cur = setsV (List.replicate n 0) := by
      apply Array.toList_inj.1
      rw [h4]
      simp [setsV]
    rw [← hcur]
    exact hg

theorem or_pow {S : List Nat} {x y : Nat} (hx : x < S.length) (hS : S.getD x 0 < 512) (hy : y < 9) : bits .or .i64 ((S[x] : Nat) : Int) (wrap64 (2 ^ y)) = ((S.getD x 0 ||| 2 ^ y : Nat) : Int) := by
  have h1 : 2 ^ y < 2 ^ 9 := Nat.pow_lt_pow_right (by omega) hy
  have e1 : ((2 : Int) ^ y) = ((2 ^ y : Nat) : Int) := by simp
  have e2 : wrap64 ((2 ^ y : Nat) : Int) = ((2 ^ y : Nat) : Int) := by
    generalize 2 ^ y = z at *
    unfold wrap64; omega
  have e3 : S[x] = S.getD x 0 := by simp [hx]
  rw [e1, e2, e3]
  exact or_i64 _ _ (by omega) (by omega)

/-- sets handed back -/
def SetsRet (base : Nat) (S : List Nat) (e : Ending) (w' : World) : Prop := ∃ g, base ≤ g ∧ e = .returned (.slice (some ⟨g, 0, none⟩) S.length S.length) ∧ HeldB w' g 3 (setsV S)

/-- where the model's sets lie while they are told -/
def JuSt (w : World) (ao : Option Addr) (p : List ByteArray) (ro : Option Addr) (L : List Wl) (S : List Nat) (wr : World) : Prop :=
  HeldB wr w.heap.size 3 (setsV S) ∧ WRows wr (w.heap.size + 1) ro L ∧ CellsAt wr ao (p.map Value.string) ∧ Below w.heap.size w wr ∧ w.heap.size + 1 ≤ wr.heap.size
theorem JuSt.below {w : World} {ao : Option Addr} {p : List ByteArray} {ro : Option Addr} {L : List Wl} {S : List Nat} {wr w1 : World} (h : JuSt w ao p ro L S wr) (hb : Below wr.heap.size wr w1) : JuSt w ao p ro L S w1 :=
  ⟨h.1.below hb, h.2.1.below hb, h.2.2.1.below hb, below_step h.2.2.2.1 h.2.2.2.1.size hb, Nat.le_trans h.2.2.2.2 hb.size⟩
theorem JuSt.put {w : World} {ao : Option Addr} {p : List ByteArray} (hao : ∀ a, ao = some a → a.block < w.heap.size) {ro : Option Addr} {L : List Wl} {S : List Nat} {wr : World} (h : JuSt w ao p ro L S wr) (x m : Nat) :
    JuSt w ao p ro L (S.set x m) (wr.setCell ⟨w.heap.size, x, none⟩ (.int .i64 (m : Nat))) := by
  have hg := gbCell wr w.heap.size x (.int .i64 (m : Nat))
  refine ⟨(h.1.set x _).eq (setsV_put S x m), h.2.1.grown hg (fun k hk => .inl (by have := Option.some.inj hk; omega)), h.2.2.1.grown hg (fun a ha e => by have := hao a ha; have := Option.some.inj e; omega), h.2.2.2.1.setCell (p := ⟨w.heap.size, x, none⟩) (by simp) _, Nat.le_trans h.2.2.2.2 hg.size⟩

end Go.Proofs.Ytjdlapcikpmdgaa

/-
  The model's rooms led to in the end, and its answers about two rooms. (Walks.)
-/
namespace Go.Proofs.Ytjdlapcikpmdgaa
open Go.RowKit

end Go.Proofs.Ytjdlapcikpmdgaa

/-
  Merged texts: OrdY OrdZ OrdC.
-/
/-
  The places of rooms in a line, and the line: the program's. (Walks.)
-/
namespace Go.Proofs.Ytjdlapcikpmdgaa
open Go.RowKit

/-! # counting who is ahead -/
/-- the number of rooms ahead of one -/
def placeN (q : Nat → Nat → Bool) (r b : Nat) : Nat := (List.range r).countP fun a => q a b
theorem placeN_succ (q : Nat → Nat → Bool) (r b : Nat) : placeN q (r + 1) b = placeN q r b + (if q r b then 1 else 0) := by
  unfold placeN; rw [List.range_succ, List.countP_append, List.countP_singleton]
theorem placeN_le (q : Nat → Nat → Bool) (r b : Nat) : placeN q r b ≤ r := by
  unfold placeN; have := List.countP_le_length (p := fun a => q a b) (l := List.range r); rwa [List.length_range] at this
theorem placeN_lt {q : Nat → Nat → Bool} {r b : Nat} (hb : b < r) (hq : q b b = false) : placeN q r b < r := by
  rcases Nat.lt_or_ge (placeN q r b) r with h | h
  · exact h
  · exfalso
    have hall : (List.range r).countP (fun a => q a b) = (List.range r).length := by
      have := placeN_le q r b; unfold placeN at this h; rw [List.length_range]; omega
    rw [List.countP_eq_length] at hall
    have := hall b (List.mem_range.2 hb)
    rw [hq] at this; cases this
/-- the places once the first rooms, and of the next one the first pairs, are gone through -/
def placeL (q : Nat → Nat → Bool) (r i j : Nat) : List Nat := (List.range r).map fun b => placeN q i b + (if b < j ∧ q i b = true then 1 else 0)
theorem placeL_len (q : Nat → Nat → Bool) (r i j : Nat) : (placeL q r i j).length = r := by simp [placeL]
theorem placeL_at {q : Nat → Nat → Bool} {r i j b : Nat} (hb : b < r) : (placeL q r i j).getD b 0 = placeN q i b + (if b < j ∧ q i b = true then 1 else 0) := by simp [placeL, hb]
theorem placeL_zero (q : Nat → Nat → Bool) (r : Nat) : placeL q r 0 0 = List.replicate r 0 := by
  unfold placeL placeN
  simp [List.map_const']
theorem list_getD_ext {S T : List Nat} (hl : S.length = T.length) (h : ∀ b, b < S.length → S.getD b 0 = T.getD b 0) : S = T := by
  apply List.ext_getElem hl
  intro b h1 h2
  have := h b h1
  simpa [h1, h2] using this
theorem placeL_row (q : Nat → Nat → Bool) (r i : Nat) : placeL q r i r = placeL q r (i + 1) 0 := by
  apply list_getD_ext (by rw [placeL_len, placeL_len])
  intro b hb
  rw [placeL_len] at hb
  rw [placeL_at hb, placeL_at hb, placeN_succ]
  by_cases hq : q i b = true
  · rw [if_pos ⟨hb, hq⟩, if_pos hq, if_neg (by omega)]
  · rw [if_neg (fun e => hq e.2), if_neg hq, if_neg (by omega)]
theorem placeL_put {q : Nat → Nat → Bool} {r i j : Nat} (hj : j < r) (hq : q i j = true) : (placeL q r i j).set j ((placeL q r i j).getD j 0 + 1) = placeL q r i (j + 1) := by
  apply list_getD_ext (by rw [List.length_set, placeL_len, placeL_len])
  intro b hb
  rw [List.length_set, placeL_len] at hb
  rw [getD_set _ _ _ _ (by rw [placeL_len]; exact hj), placeL_at hb, placeL_at hj]
  by_cases hbj : b = j
  · subst hbj; rw [if_pos rfl, if_neg (by omega), placeL_at hb, if_pos ⟨by omega, hq⟩]
  · rw [if_neg hbj, placeL_at hb]
    by_cases h : b < j ∧ q i b = true
    · rw [if_pos h, if_pos ⟨by omega, h.2⟩]
    · rw [if_neg h, if_neg (fun e => h ⟨by omega, e.2⟩)]
theorem placeL_skip {q : Nat → Nat → Bool} {r i j : Nat} (hq : q i j = false) : placeL q r i j = placeL q r i (j + 1) := by
  apply list_getD_ext (by rw [placeL_len, placeL_len])
  intro b hb
  rw [placeL_len] at hb
  rw [placeL_at hb, placeL_at hb]
  by_cases h : b < j ∧ q i b = true
  · rw [if_pos h, if_pos ⟨by omega, h.2⟩]
  · rw [if_neg h, if_neg (fun e => ?_)]
    by_cases hbj : b = j
    · subst hbj; rw [hq] at e; cases e.2
    · exact h ⟨by omega, e.2⟩
def placesN (q : Nat → Nat → Bool) (r : Nat) : List Nat := placeL q r r 0
theorem placesN_at {q : Nat → Nat → Bool} {r b : Nat} (hb : b < r) : (placesN q r).getD b 0 = placeN q r b := by
  unfold placesN; rw [placeL_at hb, if_neg (by omega)]; rfl

/-- the line: each room at its place -/
def lineN (q : Nat → Nat → Bool) (r : Nat) : Nat → List Nat
  | 0 => List.replicate r 0
  | k + 1 => (lineN q r k).set (placeN q r k) k
theorem lineN_len (q : Nat → Nat → Bool) (r : Nat) : ∀ k, (lineN q r k).length = r
  | 0 => List.length_replicate
  | k + 1 => by rw [lineN, List.length_set]; exact lineN_len q r k
theorem lineN_lt (q : Nat → Nat → Bool) (r : Nat) : ∀ k, k ≤ r → ∀ i, i < r → (lineN q r k).getD i 0 < r
  | 0, _, i, hi => by simp [lineN, hi]; omega
  | k + 1, hk, i, hi => by
    rw [lineN]
    rcases Nat.lt_or_ge (placeN q r k) r with h | h
    · rw [getD_set _ _ _ _ (by rw [lineN_len]; exact h)]
      split
      · omega
      · exact lineN_lt q r k (by omega) i hi
    · rw [List.set_eq_of_length_le (by rw [lineN_len]; exact h)]
      exact lineN_lt q r k (by omega) i hi

theorem held_zeros {w : World} {base g n : Nat} (h : w.ownsRow base 3 1 (.slice (some ⟨g, 0, none⟩) n n) n (madeCells (Value.int .i64 0).cells (n * 1)).toList) : HeldB w g 3 (setsV (List.replicate n 0)) := by
  rw [show (.int .i64 0 : Value).cells = #[.int .i64 0] from rfl, Nat.mul_one, toList_madeCells_one] at h
  rcases h.2 with ⟨hv, h0⟩ | ⟨g', cap', cur, hv, hb, hg, h1, h2, h3, h4⟩
  · cases hv
  · simp only [Value.slice.injEq, Option.some.injEq, Addr.mk.injEq, and_true, true_and] at hv
    obtain ⟨rfl, rfl⟩ := hv
    rw [Nat.mul_one] at h3 h4
    rw [List.take_of_length_le (by rw [Array.length_toList]; omega)] at h4
    have hcur : cur = setsV (List.replicate n 0) := by
      apply Array.toList_inj.1
      rw [h4]
      simp [setsV]
    rw [← hcur]
    exact hg
theorem owns_sets {w : World} {base g : Nat} {S : List Nat} (h : HeldB w g 3 (setsV S)) (hb : base ≤ g) (hl : S.length ≤ maxLen) : w.ownsRow base 3 1 (.slice (some ⟨g, 0, none⟩) S.length S.length) S.length ((S.map fun m => ((m : Nat) : Int)).map (Value.int .i64)) := by
  refine ⟨by simp, .inr ⟨g, S.length, setsV S, rfl, hb, h, Nat.le_refl _, hl, by rw [setsV_size, Nat.mul_one], ?_⟩⟩
  rw [Nat.mul_one, List.take_of_length_le (by rw [Array.length_toList, setsV_size]; exact Nat.le_refl _)]
  simp [setsV]

/-! # the two questions -/
def firstQ (F : Nat → Nat → Nat → Bool) (a b : Nat) : Bool := F 0 a b || F 1 a b
def secondQ (F : Nat → Nat → Nat → Bool) (a b : Nat) : Bool := F 0 a b || F 1 b a
/-- places handed back -/
def PlRet (base : Nat) (S : List Nat) (e : Ending) (w' : World) : Prop := ∃ g, base ≤ g ∧ e = .returned (.slice (some ⟨g, 0, none⟩) S.length S.length) ∧ HeldB w' g 3 (setsV S)

end Go.Proofs.Ytjdlapcikpmdgaa

/-
  The line of rooms, and the program's first and second orders. (Walks.)
-/
namespace Go.Proofs.Ytjdlapcikpmdgaa
open Go.RowKit

/-- where the line lies while it is laid -/
def LiSt (w : World) (gp : Nat) (P S : List Nat) (wr : World) : Prop := HeldB wr (w.heap.size + 1) 3 (setsV S) ∧ HeldB wr gp 3 (setsV P) ∧ Below w.heap.size w wr
theorem LiSt.put {w : World} {gp : Nat} {P S T : List Nat} {wr : World} (hgp : w.heap.size + 1 < gp) (h : LiSt w gp P S wr) (x m : Nat) (hT : S.set x m = T) : LiSt w gp P T (wr.setCell ⟨w.heap.size + 1, x, none⟩ (.int .i64 (m : Nat))) := by
  subst hT
  exact ⟨(h.1.set x _).eq (setsV_put S x m), h.2.1.other (by simp; omega) _, h.2.2.setCell (p := ⟨w.heap.size + 1, x, none⟩) (by simp) _⟩

theorem oF_yes {p : List ByteArray} (h : plainB p = true) : oF p = pL p := by unfold oF; rw [if_pos h]; rfl
theorem firstQ_irr (p : List ByteArray) : ∀ b, b < oR p → firstQ (oF p) b b = false := fun b hb => by
  cases h : plainB p
  · unfold oR at hb; rw [h] at hb; simp at hb
  · have hb2 : b < gridR p := by unfold oR at hb; rwa [if_pos h] at hb
    rw [oF_yes h]; unfold firstQ
    rw [pL_self h hb2 0 (by omega), pL_self h hb2 1 (by omega)]; rfl
theorem secondQ_irr (p : List ByteArray) : ∀ b, b < oR p → secondQ (oF p) b b = false := fun b hb => by
  cases h : plainB p
  · unfold oR at hb; rw [h] at hb; simp at hb
  · have hb2 : b < gridR p := by unfold oR at hb; rwa [if_pos h] at hb
    rw [oF_yes h]; unfold secondQ
    rw [pL_self h hb2 0 (by omega), pL_self h hb2 1 (by omega)]; rfl
/-- whole numbers of naturals -/
def intsL (S : List Nat) : List Int := S.map fun m => ((m : Nat) : Int)
theorem intsL_len (S : List Nat) : (intsL S).length = S.length := by simp [intsL]
theorem nums_of {w : World} {base g : Nat} {S : List Nat} {b : Bool} (h : HeldB w g 3 (setsV S)) (hb : base ≤ g) (hl : S.length ≤ 9) : NumsRet base (intsL S) b (.returned (.tuple #[.slice (some ⟨g, 0, none⟩) S.length S.length, .bool b])) w := by
  have := owns_sets h hb (by unfold maxLen; omega)
  refine ⟨some ⟨g, 0, none⟩, S.length, by rw [intsL_len], ?_⟩
  rw [intsL_len]; exact this
def firstL (p : List ByteArray) : List Nat := lineN (firstQ (oF p)) (oR p) (oR p)
def secondL (p : List ByteArray) : List Nat := lineN (secondQ (oF p)) (oR p) (oR p)
theorem firstL_len (p : List ByteArray) : (firstL p).length = oR p := lineN_len _ _ _
theorem secondL_len (p : List ByteArray) : (secondL p).length = oR p := lineN_len _ _ _
end Go.Proofs.Ytjdlapcikpmdgaa

/-
  The permutation of an order: what it is, and the program's. (Plain mathematics, and walks.)
-/
namespace Go.Proofs.Ytjdlapcikpmdgaa
open Go.RowKit

/-- a question that puts the first numbers into a line -/
structure Lin (q : Nat → Nat → Bool) (r : Nat) : Prop where
  irr : ∀ a, a < r → q a a = false
  all : ∀ a b, a < r → b < r → a ≠ b → q a b = true ∨ q b a = true
  trans : ∀ a b c, a < r → b < r → c < r → q a b = true → q b c = true → q a c = true
theorem cnt_le {p p' : Nat → Bool} : ∀ n, (∀ x, x < n → p x = true → p' x = true) → (List.range n).countP p ≤ (List.range n).countP p'
  | 0, _ => Nat.le_refl _
  | n + 1, h => by
    have ih := cnt_le n (fun x hx => h x (by omega))
    have hn := h n (by omega)
    rw [List.range_succ, List.countP_append, List.countP_append, List.countP_singleton, List.countP_singleton]
    cases hp : p n
    · simp; omega
    · rw [hn hp]; simp; omega
theorem cnt_lt {p p' : Nat → Bool} {a : Nat} (ha2 : p' a = true) (ha1 : p a = false) : ∀ n, a < n → (∀ x, x < n → p x = true → p' x = true) → (List.range n).countP p < (List.range n).countP p'
  | 0, ha, _ => by omega
  | n + 1, ha, h => by
    have hn := h n (by omega)
    have hle := cnt_le (p := p) (p' := p') n (fun x hx => h x (by omega))
    rw [List.range_succ, List.countP_append, List.countP_append, List.countP_singleton, List.countP_singleton]
    by_cases hna : a = n
    · subst hna; rw [ha1, ha2]; simp; omega
    · have ih := cnt_lt ha2 ha1 n (by omega) (fun x hx => h x (by omega))
      cases hp : p n
      · simp; omega
      · rw [hn hp]; simp; omega
theorem Lin.mono {q : Nat → Nat → Bool} {r a b : Nat} (L : Lin q r) (ha : a < r) (hb : b < r) (h : q a b = true) : placeN q r a < placeN q r b :=
  cnt_lt (p := fun x => q x a) (p' := fun x => q x b) (a := a) h (L.irr a ha) r ha (fun x hx hxa => L.trans x a b hx ha hb hxa h)
theorem Lin.inj {q : Nat → Nat → Bool} {r a b : Nat} (L : Lin q r) (ha : a < r) (hb : b < r) (h : placeN q r a = placeN q r b) : a = b := by
  rcases Nat.decEq a b with hne | he
  · rcases L.all a b ha hb hne with h1 | h1
    · have := L.mono ha hb h1; omega
    · have := L.mono hb ha h1; omega
  · exact he
theorem Lin.lt {q : Nat → Nat → Bool} {r a : Nat} (L : Lin q r) (ha : a < r) : placeN q r a < r := placeN_lt ha (L.irr a ha)
theorem Lin.surj {q : Nat → Nat → Bool} {r k : Nat} (L : Lin q r) (hk : k < r) : ∃ x, x < r ∧ placeN q r x = k := by
  by_cases h : ∃ x, x < r ∧ placeN q r x = k
  · exact h
  · exfalso
    have hn : (k :: (List.range r).map (placeN q r)).Nodup := by
      rw [List.nodup_cons]
      refine ⟨fun hm => ?_, ?_⟩
      · obtain ⟨x, hx, e⟩ := List.mem_map.1 hm
        exact h ⟨x, List.mem_range.1 hx, e⟩
      · unfold List.Nodup
        rw [List.pairwise_map]
        refine List.Pairwise.imp_of_mem ?_ List.pairwise_lt_range
        intro a b ha hb hab e
        have := L.inj (List.mem_range.1 ha) (List.mem_range.1 hb) e
        omega
    have := nodup_lt r _ hn (fun x hx => by
      rw [List.mem_cons] at hx
      rcases hx with rfl | hx
      · exact hk
      · obtain ⟨y, hy, rfl⟩ := List.mem_map.1 hx
        exact L.lt (List.mem_range.1 hy))
    simp at this
    omega
theorem Lin.line_at {q : Nat → Nat → Bool} {r : Nat} (L : Lin q r) : ∀ k, k ≤ r → ∀ x, x < k → (lineN q r k).getD (placeN q r x) 0 = x
  | 0, _, x, hx => by omega
  | k + 1, hk, x, hx => by
    rw [lineN, getD_set _ _ _ _ (by rw [lineN_len]; exact L.lt (by omega))]
    by_cases he : placeN q r x = placeN q r k
    · rw [if_pos he]; exact (L.inj (by omega) (by omega) he).symm
    · rw [if_neg he]
      refine L.line_at k (by omega) x ?_
      rcases Nat.lt_or_ge x k with h | h
      · exact h
      · obtain rfl : x = k := by omega
        exact absurd rfl he
theorem Lin.line {q : Nat → Nat → Bool} {r x : Nat} (L : Lin q r) (hx : x < r) : (lineN q r r).getD (placeN q r x) 0 = x := L.line_at r (Nat.le_refl _) x hx
/-- the room at a place has that place -/
theorem Lin.back {q : Nat → Nat → Bool} {r k : Nat} (L : Lin q r) (hk : k < r) : placeN q r ((lineN q r r).getD k 0) = k ∧ (lineN q r r).getD k 0 < r := by
  obtain ⟨x, hx, e⟩ := L.surj hk
  have := L.line hx
  rw [e] at this
  rw [this]
  exact ⟨e, hx⟩

/-- the permutation: the place in one line of each room of the other one -/
def permQ (q1 q2 : Nat → Nat → Bool) (r : Nat) : List Nat := (List.range r).map fun i => placeN q1 r ((lineN q2 r r).getD i 0)
def permK (q1 q2 : Nat → Nat → Bool) (r k : Nat) : List Nat := (List.range r).map fun i => if i < k then placeN q1 r ((lineN q2 r r).getD i 0) else (lineN q2 r r).getD i 0
theorem permQ_len (q1 q2 : Nat → Nat → Bool) (r : Nat) : (permQ q1 q2 r).length = r := by simp [permQ]
theorem permK_len (q1 q2 : Nat → Nat → Bool) (r k : Nat) : (permK q1 q2 r k).length = r := by simp [permK]
theorem permK_at {q1 q2 : Nat → Nat → Bool} {r k i : Nat} (hi : i < r) : (permK q1 q2 r k).getD i 0 = if i < k then placeN q1 r ((lineN q2 r r).getD i 0) else (lineN q2 r r).getD i 0 := by simp [permK, hi]
theorem permK_zero (q1 q2 : Nat → Nat → Bool) (r : Nat) : permK q1 q2 r 0 = lineN q2 r r := by
  apply list_getD_ext (by rw [permK_len, lineN_len])
  intro i hi
  rw [permK_len] at hi
  rw [permK_at hi, if_neg (by omega)]
theorem permK_all (q1 q2 : Nat → Nat → Bool) (r : Nat) : permK q1 q2 r r = permQ q1 q2 r := by
  unfold permK permQ
  refine List.map_congr_left fun i hi => ?_
  rw [if_pos (List.mem_range.1 hi)]
theorem permK_put {q1 q2 : Nat → Nat → Bool} {r k : Nat} (hk : k < r) : (permK q1 q2 r k).set k (placeN q1 r ((lineN q2 r r).getD k 0)) = permK q1 q2 r (k + 1) := by
  apply list_getD_ext (by rw [List.length_set, permK_len, permK_len])
  intro i hi
  rw [List.length_set, permK_len] at hi
  rw [getD_set _ _ _ _ (by rw [permK_len]; exact hk), permK_at hi, permK_at hi]
  by_cases hik : i = k
  · subst hik; rw [if_pos rfl, if_pos (by omega)]
  · rw [if_neg hik]
    by_cases h : i < k
    · rw [if_pos h, if_pos (by omega)]
    · rw [if_neg h, if_neg (by omega)]

/-- where the permutation lies while it is made -/
def PeSt (w : World) (g1 g2 : Nat) (P S : List Nat) (wr : World) : Prop := HeldB wr g1 3 (setsV P) ∧ HeldB wr g2 3 (setsV S) ∧ Below w.heap.size w wr
theorem PeSt.put {w : World} {g1 g2 : Nat} {P S T : List Nat} {wr : World} (h1 : g1 ≠ g2) (h2 : w.heap.size ≤ g2) (h : PeSt w g1 g2 P S wr) (x m : Nat) (hT : S.set x m = T) : PeSt w g1 g2 P T (wr.setCell ⟨g2, x, none⟩ (.int .i64 (m : Nat))) := by
  subst hT
  exact ⟨h.1.other h1 _, (h.2.1.set x _).eq (setsV_put S x m), h.2.2.setCell (p := ⟨g2, x, none⟩) h2 _⟩

def permL (p : List ByteArray) : List Nat := permQ (firstQ (oF p)) (secondQ (oF p)) (oR p)
theorem permL_len (p : List ByteArray) : (permL p).length = oR p := permQ_len _ _ _
end Go.Proofs.Ytjdlapcikpmdgaa

/-
  Merged texts: OrdV OrdA OrdB OrdD.
-/
/-
  The model's answers about two rooms: left, above, the kind. (Walks.)
-/
namespace Go.Proofs.Ytjdlapcikpmdgaa
open Go.RowKit

/-- a plain plan and two rooms -/
def twoRm (p : List ByteArray) (a b : Int) : Bool := plainB p && givenB p a && givenB p b
theorem twoRm_is (p : List ByteArray) (a b : Int) : twoRm p a b = (plainB p && oRm (gridR p) a && oRm (gridR p) b) := by
  unfold twoRm
  cases h : plainB p
  · rfl
  · rw [given_oRm (plainB_plan h), given_oRm (plainB_plan h)]

theorem block_in {w : World} {ao : Option Addr} {p : List ByteArray} (hp : planB p = true) (hc : CellsAt w ao (p.map Value.string)) : ∀ a, ao = some a → a.block < w.heap.size := fun a ha => by
  have h1 := (planP_of hp).grid.h1
  obtain ⟨b, off, he, hcell⟩ := hc 0 (.string (p.getD 0 ByteArray.empty)) (by rw [List.getElem?_map, List.getElem?_eq_getElem (by omega)]; simp [show 0 < p.length by omega])
  rw [ha] at he
  cases he
  exact World.block_lt_of_cell? w _ hcell
theorem kind_out {p : List ByteArray} {a b : Int} (h : ∀ way, way < 2 → ledP p way a b = false ∧ ledP p way b a = false) : kindV p a b = ⟨#[]⟩ ∧ kindB p a b = false := by
  unfold kindV kindB
  rw [(h 0 (by omega)).1, (h 0 (by omega)).2, (h 1 (by omega)).1, (h 1 (by omega)).2]
  exact ⟨rfl, rfl⟩

end Go.Proofs.Ytjdlapcikpmdgaa

/-
  The model's lines of rooms. (Walks.)
-/
namespace Go.Proofs.Ytjdlapcikpmdgaa
open Go.RowKit

theorem oR_yes {p : List ByteArray} (h : plainB p = true) : oR p = gridR p := by unfold oR; rw [if_pos h]
/-- where the model's line lies -/
def SoSt (w : World) (g5 g6 gp : Nat) (S T L : List Nat) (wr : World) : Prop := HeldB wr g5 3 (setsV S) ∧ HeldB wr g6 3 (setsV T) ∧ HeldB wr gp 3 (setsV L) ∧ Below w.heap.size w wr
theorem SoSt.put {w : World} {g5 g6 gp : Nat} {S T L M : List Nat} {wr : World} (h1 : g5 ≠ gp) (h2 : g6 ≠ gp) (h3 : w.heap.size ≤ gp) (h : SoSt w g5 g6 gp S T L wr) (x m : Nat) (hM : L.set x m = M) : SoSt w g5 g6 gp S T M (wr.setCell ⟨gp, x, none⟩ (.int .i64 (m : Nat))) := by
  subst hM
  exact ⟨h.1.other h1 _, h.2.1.other h2 _, (h.2.2.1.set x _).eq (setsV_put L x m), h.2.2.2.setCell (p := ⟨gp, x, none⟩) h3 _⟩

end Go.Proofs.Ytjdlapcikpmdgaa

/-
  The model's first and second orders. (Walks.)
-/
namespace Go.Proofs.Ytjdlapcikpmdgaa
open Go.RowKit

theorem oR_no {p : List ByteArray} (h : plainB p = false) : oR p = 0 := by unfold oR; rw [h]; rfl
theorem firstL_no {p : List ByteArray} (h : plainB p = false) : firstL p = [] := List.eq_nil_of_length_eq_zero (by rw [firstL_len, oR_no h])
theorem secondL_no {p : List ByteArray} (h : plainB p = false) : secondL p = [] := List.eq_nil_of_length_eq_zero (by rw [secondL_len, oR_no h])
theorem nums_none (w : World) : (w.alloc (.cells #[] 3)).ownsRow w.heap.size 3 1 (.slice (some ⟨w.heap.size, 0, none⟩) 0 0) 0 (([] : List Int).map (Value.int .i64)) := World.ownsRow_made w #[] 0 (Nat.le_refl _) (Nat.zero_le _) rfl
end Go.Proofs.Ytjdlapcikpmdgaa

/-
  The permutation of an order: the model's. (Plain mathematics, and walks.)
-/
namespace Go.Proofs.Ytjdlapcikpmdgaa
open Go.RowKit

/-- both orders of a plain plan are lines -/
theorem first_lin {p : List ByteArray} (h : plainB p = true) : Lin (firstQ (pL p)) (gridR p) := by
  have or4 : ∀ a b : Nat, firstQ (pL p) a b = true ↔ pL p 0 a b = true ∨ pL p 1 a b = true := fun a b => by unfold firstQ; rw [Bool.or_eq_true]
  refine ⟨fun a ha => ?_, fun a b ha hb hne => ?_, fun a b c ha hb hc h1 h2 => ?_⟩
  · have := firstQ_irr p a (by rw [oR_yes h]; exact ha); rwa [oF_yes h] at this
  · rw [or4, or4]
    rcases pL_some (plainB_plan h) ha hb hne with e | e | e | e
    · exact .inl (.inl e)
    · exact .inr (.inl e)
    · exact .inl (.inr e)
    · exact .inr (.inr e)
  · rw [or4] at h1 h2
    rw [or4]
    by_cases hac : a = c
    · subst hac
      exfalso
      rcases h1 with h1 | h1 <;> rcases h2 with h2 | h2
      · rw [(pL_one h ha hb h1).1] at h2; cases h2
      · rw [(pL_one h ha hb h1).2.2] at h2; cases h2
      · rw [(pL_over h ha hb h1).2.2] at h2; cases h2
      · rw [(pL_over h ha hb h1).1] at h2; cases h2
    · rcases pL_some (plainB_plan h) ha hc hac with e | e | e | e
      · exact .inl e
      · exfalso
        -- c is left of a
        rcases h1 with h1 | h1
        · have hcb := pL_trans (by omega) e h1
          rcases h2 with h2 | h2
          · rw [(pL_one h hc hb hcb).1] at h2; cases h2
          · rw [(pL_one h hc hb hcb).2.2] at h2; cases h2
        · rcases h2 with h2 | h2
          · have hba := pL_trans (by omega) h2 e
            rw [(pL_one h hb ha hba).2.2] at h1; cases h1
          · have hca := pL_trans (by omega) h1 h2
            rw [(pL_over h ha hc hca).2.2] at e; cases e
      · exact .inr e
      · exfalso
        rcases h1 with h1 | h1
        · rcases h2 with h2 | h2
          · have hca := pL_trans (by omega) h1 h2
            rw [(pL_one h ha hc hca).2.2] at e; cases e
          · have hba := pL_trans (by omega) h2 e
            rw [(pL_over h hb ha hba).2.2] at h1; cases h1
        · have hcb := pL_trans (by omega) e h1
          rcases h2 with h2 | h2
          · rw [(pL_over h hc hb hcb).2.2] at h2; cases h2
          · rw [(pL_over h hc hb hcb).1] at h2; cases h2
theorem second_lin {p : List ByteArray} (h : plainB p = true) : Lin (secondQ (pL p)) (gridR p) := by
  have or4 : ∀ a b : Nat, secondQ (pL p) a b = true ↔ pL p 0 a b = true ∨ pL p 1 b a = true := fun a b => by unfold secondQ; rw [Bool.or_eq_true]
  refine ⟨fun a ha => ?_, fun a b ha hb hne => ?_, fun a b c ha hb hc h1 h2 => ?_⟩
  · have := secondQ_irr p a (by rw [oR_yes h]; exact ha); rwa [oF_yes h] at this
  · rw [or4, or4]
    rcases pL_some (plainB_plan h) ha hb hne with e | e | e | e
    · exact .inl (.inl e)
    · exact .inr (.inl e)
    · exact .inr (.inr e)
    · exact .inl (.inr e)
  · rw [or4] at h1 h2
    rw [or4]
    by_cases hac : a = c
    · subst hac
      exfalso
      rcases h1 with h1 | h1 <;> rcases h2 with h2 | h2
      · rw [(pL_one h ha hb h1).1] at h2; cases h2
      · rw [(pL_one h ha hb h1).2.1] at h2; cases h2
      · rw [(pL_over h hb ha h1).2.1] at h2; cases h2
      · rw [(pL_over h hb ha h1).1] at h2; cases h2
    · rcases pL_some (plainB_plan h) ha hc hac with e | e | e | e
      · exact .inl e
      · exfalso
        rcases h1 with h1 | h1
        · have hcb := pL_trans (by omega) e h1
          rcases h2 with h2 | h2
          · rw [(pL_one h hc hb hcb).1] at h2; cases h2
          · rw [(pL_one h hc hb hcb).2.1] at h2; cases h2
        · rcases h2 with h2 | h2
          · have hba := pL_trans (by omega) h2 e
            rw [(pL_one h hb ha hba).2.1] at h1; cases h1
          · have hca := pL_trans (by omega) h2 h1
            rw [(pL_over h hc ha hca).2.1] at e; cases e
      · exfalso
        -- a is above c
        rcases h1 with h1 | h1
        · rcases h2 with h2 | h2
          · have hca := pL_trans (by omega) h1 h2
            rw [(pL_one h ha hc hca).2.1] at e; cases e
          · have hab := pL_trans (by omega) e h2
            rw [(pL_one h ha hb h1).2.1] at hab; cases hab
        · have hbc := pL_trans (by omega) h1 e
          rcases h2 with h2 | h2
          · rw [(pL_one h hb hc h2).2.1] at hbc; cases hbc
          · rw [(pL_over h hb hc hbc).1] at h2; cases h2
      · exact .inr e

/-- the model's places: each place told to the room there -/
def placK (q : Nat → Nat → Bool) (r : Nat) : Nat → List Nat
  | 0 => List.replicate r 0
  | k + 1 => (placK q r k).set ((lineN q r r).getD k 0) k
theorem placK_len (q : Nat → Nat → Bool) (r : Nat) : ∀ k, (placK q r k).length = r
  | 0 => List.length_replicate
  | k + 1 => by rw [placK, List.length_set]; exact placK_len q r k
theorem placK_at {q : Nat → Nat → Bool} {r : Nat} (L : Lin q r) : ∀ k, k ≤ r → ∀ x, x < r → placeN q r x < k → (placK q r k).getD x 0 = placeN q r x
  | 0, _, x, _, h => by omega
  | k + 1, hk, x, hx, h => by
    obtain ⟨b1, b2⟩ := L.back (k := k) (by omega)
    rw [placK, getD_set _ _ _ _ (by rw [placK_len]; exact b2)]
    by_cases he : x = (lineN q r r).getD k 0
    · rw [if_pos he]; rw [← he] at b1; exact b1.symm
    · rw [if_neg he]
      refine placK_at L k (by omega) x hx ?_
      rcases Nat.lt_or_ge (placeN q r x) k with h1 | h1
      · exact h1
      · exfalso
        exact he (L.inj hx b2 (by omega))

theorem permQ_at {q1 q2 : Nat → Nat → Bool} {r i : Nat} (hi : i < r) : (permQ q1 q2 r).getD i 0 = placeN q1 r ((lineN q2 r r).getD i 0) := by simp [permQ, hi]
theorem ints_push (L : List Int) (i : Nat) (h : i < L.length) : L.take (i + 1) = L.take i ++ [L.getD i 0] := by
  rw [List.take_succ_eq_append_getElem h]; simp [h]

theorem permL_no {p : List ByteArray} (h : plainB p = false) : permL p = [] := List.eq_nil_of_length_eq_zero (by rw [permL_len, oR_no h])
end Go.Proofs.Ytjdlapcikpmdgaa
