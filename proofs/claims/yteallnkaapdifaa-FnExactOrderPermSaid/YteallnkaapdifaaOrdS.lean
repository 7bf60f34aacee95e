
/-
  The model's sets of rooms: as numbers whose bits tell the rooms. (Plain mathematics, and walks.)
-/
import Derived.Test.YteallnkaapdifaaOrdM
import Derived.Test.YteallnkaapdifaaSideS
import Derived.BigRegion
namespace Go.Proofs.Yteallnkaapdifaa
open Go.RowKit

/-! # sets as numbers -/
def setsV (S : List Nat) : Array Value := (S.map fun m => Value.int .i64 ((m : Nat) : Int)).toArray
theorem setsV_size (S : List Nat) : (setsV S).size = S.length := by simp [setsV]
theorem setsV_at {S : List Nat} {i : Nat} (h : i < S.length) : (setsV S)[i]? = some (.int .i64 ((S.getD i 0 : Nat) : Int)) := by simp [setsV, h]
theorem setsV_put (S : List Nat) (i m : Nat) : (setsV S).setIfInBounds i (.int .i64 (m : Nat)) = setsV (S.set i m) := by
  unfold setsV; rw [List.map_set]; simp
structure IsSets (S : List Nat) (n : Nat) (f : Nat → Nat → Bool) : Prop where
  len : S.length = n
  low : ∀ a, a < n → S.getD a 0 < 512
  bit : ∀ a b, a < n → (S.getD a 0).testBit b = f a b
theorem IsSets.same {S : List Nat} {n : Nat} {f f' : Nat → Nat → Bool} (h : IsSets S n f) (he : ∀ a b, a < n → f a b = f' a b) : IsSets S n f' :=
  ⟨h.len, h.low, fun a b ha => by rw [h.bit a b ha, he a b ha]⟩
theorem sets_zero {n : Nat} {f : Nat → Nat → Bool} (hf : ∀ a b, f a b = false) : IsSets (List.replicate n 0) n f :=
  ⟨List.length_replicate, fun a ha => by simp [ha], fun a b ha => by rw [hf]; simp [ha]⟩
theorem getD_set (S : List Nat) (i a m : Nat) (hi : i < S.length) : (S.set i m).getD a 0 = if a = i then m else S.getD a 0 := by
  rw [List.getD_eq_getElem?_getD, List.getElem?_set, List.getD_eq_getElem?_getD]
  by_cases h : a = i
  · subst h; simp [hi]
  · rw [if_neg (fun e => h e.symm), if_neg h]
/-- a room told -/
theorem IsSets.put {S : List Nat} {n : Nat} {f f' : Nat → Nat → Bool} (h : IsSets S n f) {x y : Nat} (hx : x < n) (hy : y < 9) (hf : ∀ a b, f' a b = if a = x ∧ b = y then true else f a b) : IsSets (S.set x (S.getD x 0 ||| 2 ^ y)) n f' := by
  have hl := h.len
  refine ⟨by rw [List.length_set]; exact hl, fun a ha => ?_, fun a b ha => ?_⟩
  · rw [getD_set _ _ _ _ (by omega)]
    split
    · have : 2 ^ y < 2 ^ 9 := Nat.pow_lt_pow_right (by omega) hy
      exact Nat.or_lt_two_pow (n := 9) (h.low x hx) this
    · exact h.low a ha
  · rw [getD_set _ _ _ _ (by omega), hf]
    by_cases hax : a = x
    · subst hax
      rw [if_pos rfl, Nat.testBit_or, h.bit a b ha, Nat.testBit_two_pow]
      by_cases hb : y = b
      · subst hb; rw [if_pos ⟨rfl, rfl⟩]; simp
      · rw [if_neg (fun e => hb e.2.symm), decide_eq_false hb, Bool.or_false]
    · rw [if_neg hax, if_neg (fun e => hax e.1)]
      exact h.bit a b ha
/-- a set taken in -/
theorem IsSets.join {S : List Nat} {n : Nat} {f f' : Nat → Nat → Bool} (h : IsSets S n f) {x y : Nat} (hx : x < n) (hy : y < n) (hf : ∀ a b, f' a b = if a = x then f x b || f y b else f a b) : IsSets (S.set x (S.getD x 0 ||| S.getD y 0)) n f' := by
  have hl := h.len
  refine ⟨by rw [List.length_set]; exact hl, fun a ha => ?_, fun a b ha => ?_⟩
  · rw [getD_set _ _ _ _ (by omega)]
    split
    · exact Nat.or_lt_two_pow (n := 9) (h.low x hx) (h.low y hy)
    · exact h.low a ha
  · rw [getD_set _ _ _ _ (by omega), hf]
    by_cases hax : a = x
    · subst hax
      rw [if_pos rfl, if_pos rfl, Nat.testBit_or, h.bit a b ha, h.bit y b hy]
    · rw [if_neg hax, if_neg hax]
      exact h.bit a b ha

/-- small numbers put together -/
theorem or_i64 (a b : Nat) (ha : a < 4294967296) (hb : b < 4294967296) : bits .or .i64 (a : Int) (b : Int) = ((a ||| b : Nat) : Int) := by
  have hx : a ||| b < 2 ^ 32 := Nat.or_lt_two_pow (by omega) (by omega)
  have h1 : (BitVec.ofInt 64 (a : Int)).toNat = a := by
    rw [BitVec.ofInt_natCast, BitVec.toNat_ofNat]; exact Nat.mod_eq_of_lt (by omega)
  have h2 : (BitVec.ofInt 64 (b : Int)).toNat = b := by
    rw [BitVec.ofInt_natCast, BitVec.toNat_ofNat]; exact Nat.mod_eq_of_lt (by omega)
  show IntKind.i64.wrap ((BitVec.ofInt 64 (a : Int) ||| BitVec.ofInt 64 (b : Int)).toNat : Int) = _
  rw [BitVec.toNat_or, h1, h2]
  simp [IntKind.wrap, IntKind.bits, IntKind.signed]
  omega
theorem and_i64 (a b : Nat) (ha : a < 4294967296) (hb : b < 4294967296) : bits .and .i64 (a : Int) (b : Int) = ((a &&& b : Nat) : Int) := by
  have hx : a &&& b < 2 ^ 32 := Nat.and_lt_two_pow _ (by omega)
  have h1 : (BitVec.ofInt 64 (a : Int)).toNat = a := by
    rw [BitVec.ofInt_natCast, BitVec.toNat_ofNat]; exact Nat.mod_eq_of_lt (by omega)
  have h2 : (BitVec.ofInt 64 (b : Int)).toNat = b := by
    rw [BitVec.ofInt_natCast, BitVec.toNat_ofNat]; exact Nat.mod_eq_of_lt (by omega)
  show IntKind.i64.wrap ((BitVec.ofInt 64 (a : Int) &&& BitVec.ofInt 64 (b : Int)).toNat : Int) = _
  rw [BitVec.toNat_and, h1, h2]
  simp [IntKind.wrap, IntKind.bits, IntKind.signed]
  omega
/-- one bit of a small number -/
theorem bit_i64 (m b : Nat) (hm : m < 512) : (bits .and .i64 ((m : Int) / 2 ^ b) 1 == 1) = m.testBit b := by
  have e1 : (m : Int) / 2 ^ b = ((m / 2 ^ b : Nat) : Int) := by
    simp
  have e2 := and_i64 (m / 2 ^ b) 1 (Nat.lt_of_le_of_lt (Nat.div_le_self _ _) (by omega)) (by omega)
  rw [e1]
  change (bits .and .i64 ((m / 2 ^ b : Nat) : Int) ((1 : Nat) : Int) == 1) = _
  rw [e2, Nat.and_one_is_mod, Nat.testBit_eq_decide_div_mod_eq]
  rw [Bool.eq_iff_iff, beq_iff_eq, decide_eq_true_eq]
  omega
end Go.Proofs.Yteallnkaapdifaa
