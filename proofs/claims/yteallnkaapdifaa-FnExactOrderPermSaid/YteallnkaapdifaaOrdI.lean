
/-
  Orders of rooms: what they are in memory, and how rooms lead on. (Walks.)
-/
import Derived.Test.YteallnkaapdifaaOrdM
import Derived.OrdersHeld
import Derived.BigRegion
namespace Go.Proofs.Yteallnkaapdifaa
open Go.RowKit

/-- which room leads to which, by the way of the walls, as cells behind a plan's -/
def ldsL (F : Nat → Nat → Nat → Bool) : List Value := (List.range 162).map fun i => .bool (F (i / 81) (i % 81 / 9) (i % 9))
def ordC (C : Array Value) (F : Nat → Nat → Nat → Bool) : Array Value := C ++ (ldsL F).toArray
theorem ldsL_len (F : Nat → Nat → Nat → Bool) : (ldsL F).length = 162 := by simp [ldsL]
theorem ordC_size {C : Array Value} (h : C.size = 39) (F : Nat → Nat → Nat → Bool) : (ordC C F).size = 201 := by simp [ordC, h, ldsL_len]
theorem ordC_lo {C : Array Value} (F : Nat → Nat → Nat → Bool) {k : Nat} (hk : k < C.size) : (ordC C F)[k]? = C[k]? := by
  unfold ordC; rw [Array.getElem?_append_left hk]
theorem ldsL_at (F : Nat → Nat → Nat → Bool) {way a b : Nat} (hw : way < 2) (ha : a < 9) (hb : b < 9) : (ldsL F)[way * 81 + a * 9 + b]? = some (.bool (F way a b)) := by
  unfold ldsL
  rw [List.getElem?_map, List.getElem?_range (by omega)]
  simp only [Option.map_some]
  rw [show (way * 81 + a * 9 + b) / 81 = way by omega, show (way * 81 + a * 9 + b) % 81 / 9 = a by omega, show (way * 81 + a * 9 + b) % 9 = b by omega]
theorem ordC_at {C : Array Value} (h : C.size = 39) (F : Nat → Nat → Nat → Bool) {way a b : Nat} (hw : way < 2) (ha : a < 9) (hb : b < 9) : (ordC C F)[39 + way * 81 + a * 9 + b]? = some (.bool (F way a b)) := by
  unfold ordC
  rw [Array.getElem?_append_right (by omega), h, show 39 + way * 81 + a * 9 + b - 39 = way * 81 + a * 9 + b by omega, List.getElem?_toArray]
  exact ldsL_at F hw ha hb
/-- one lead told -/
def putF (F : Nat → Nat → Nat → Bool) (way a b : Nat) (v : Bool) : Nat → Nat → Nat → Bool := fun w x y => if w = way ∧ x = a ∧ y = b then v else F w x y
theorem ldsL_put (F : Nat → Nat → Nat → Bool) {way a b : Nat} (hw : way < 2) (ha : a < 9) (hb : b < 9) (v : Bool) : (ldsL F).set (way * 81 + a * 9 + b) (.bool v) = ldsL (putF F way a b v) := by
  apply List.ext_getElem?
  intro i
  rw [List.getElem?_set]
  by_cases hi : way * 81 + a * 9 + b = i
  · subst hi
    rw [if_pos rfl, if_pos (by rw [ldsL_len]; omega), ldsL_at _ hw ha hb]
    simp [putF]
  · rw [if_neg hi]
    by_cases hl : i < 162
    · unfold ldsL
      rw [List.getElem?_map, List.getElem?_map, List.getElem?_range hl]
      simp only [Option.map_some, putF]
      rw [if_neg (by omega)]
    · rw [List.getElem?_eq_none (by rw [ldsL_len]; omega), List.getElem?_eq_none (by rw [ldsL_len]; omega)]
theorem ordC_put {C : Array Value} (h : C.size = 39) (F : Nat → Nat → Nat → Bool) {way a b : Nat} (hw : way < 2) (ha : a < 9) (hb : b < 9) (v : Bool) : (ordC C F).setIfInBounds (39 + way * 81 + a * 9 + b) (.bool v) = ordC C (putF F way a b v) := by
  unfold ordC
  apply Array.toList_inj.1
  rw [Array.toList_setIfInBounds, Array.toList_append, Array.toList_append, List.set_append_right _ _ (by rw [Array.length_toList]; omega), Array.length_toList, h, show 39 + way * 81 + a * 9 + b - 39 = way * 81 + a * 9 + b by omega]
  congr 1
  exact ldsL_put F hw ha hb v
theorem ordC_same {C : Array Value} {F G : Nat → Nat → Nat → Bool} (h : ∀ w a b, w < 2 → a < 9 → b < 9 → F w a b = G w a b) : ordC C F = ordC C G := by
  unfold ordC ldsL
  congr 2
  refine List.map_congr_left fun i hi => ?_
  have := List.mem_range.1 hi
  rw [h _ _ _ (by omega) (by omega) (by omega)]
theorem ordC_one {C : Array Value} (h : C.all (·.oneCell') = true) (F : Nat → Nat → Nat → Bool) : (ordC C F).all (·.oneCell') = true := by
  unfold ordC
  rw [Array.all_append, h, Bool.true_and, Array.all_eq_true_iff_forall_mem]
  intro v hv
  unfold ldsL at hv
  simp only [List.mem_toArray, List.mem_map] at hv
  obtain ⟨i, _, rfl⟩ := hv
  rfl
theorem ord_info {C : Array Value} (h : C.size = 39) (F : Nat → Nat → Nat → Bool) : (Try.prog.info? 46).map (·.size) = some (ordC C F).size := by rw [ordC_size h]; kernel_rfl
def noF : Nat → Nat → Nat → Bool := fun _ _ _ => false
theorem zero_ord : ordC zeroC noF = #[.int .i64 0, .int .i64 0, .int .i64 0, .int .i64 0, .int .i64 0, .int .i64 0, .int .i64 0, .int .i64 0, .int .i64 0, .int .i64 0, .int .i64 0, .int .i64 0, .int .i64 0, .int .i64 0, .int .i64 0, .int .i64 0, .int .i64 0, .int .i64 0, .int .i64 0, .int .i64 0, .int .i64 0, .int .i64 0, .int .i64 0, .int .i64 0, .int .i64 0, .int .i64 0, .int .i64 0, .int .i64 0, .int .i64 0, .int .i64 0, .int .i64 0, .int .i64 0, .int .i64 0, .int .i64 0, .int .i64 0, .int .i64 0, .int .i64 0, .int .i64 0, .int .i64 0, .bool false, .bool false, .bool false, .bool false, .bool false, .bool false, .bool false, .bool false, .bool false, .bool false, .bool false, .bool false, .bool false, .bool false, .bool false, .bool false, .bool false, .bool false, .bool false, .bool false, .bool false, .bool false, .bool false, .bool false, .bool false, .bool false, .bool false, .bool false, .bool false, .bool false, .bool false, .bool false, .bool false, .bool false, .bool false, .bool false, .bool false, .bool false, .bool false, .bool false, .bool false, .bool false, .bool false, .bool false, .bool false, .bool false, .bool false, .bool false, .bool false, .bool false, .bool false, .bool false, .bool false, .bool false, .bool false, .bool false, .bool false, .bool false, .bool false, .bool false, .bool false, .bool false, .bool false, .bool false, .bool false, .bool false, .bool false, .bool false, .bool false, .bool false, .bool false, .bool false, .bool false, .bool false, .bool false, .bool false, .bool false, .bool false, .bool false, .bool false, .bool false, .bool false, .bool false, .bool false, .bool false, .bool false, .bool false, .bool false, .bool false, .bool false, .bool false, .bool false, .bool false, .bool false, .bool false, .bool false, .bool false, .bool false, .bool false, .bool false, .bool false, .bool false, .bool false, .bool false, .bool false, .bool false, .bool false, .bool false, .bool false, .bool false, .bool false, .bool false, .bool false, .bool false, .bool false, .bool false, .bool false, .bool false, .bool false, .bool false, .bool false, .bool false, .bool false, .bool false, .bool false, .bool false, .bool false, .bool false, .bool false, .bool false, .bool false, .bool false, .bool false, .bool false, .bool false, .bool false, .bool false, .bool false, .bool false, .bool false, .bool false, .bool false, .bool false, .bool false, .bool false, .bool false, .bool false, .bool false, .bool false, .bool false, .bool false, .bool false, .bool false, .bool false, .bool false, .bool false, .bool false, .bool false, .bool false, .bool false, .bool false, .bool false] := by kernel_rfl
theorem zero_ordC (w : World) : (zeroValue 46).run Try.prog w = .ok (.agg (ordC zeroC noF)) w := by
  rw [zero_ord]; exact Try.zeroValue46 w
theorem built_ord (h wd r : Nat) (g : Nat → Nat → Nat) : Try.prog.built 46 [(0, .agg (planC h wd r g))] = some (ordC (planC h wd r g) noF) := by kernel_rfl
theorem built_noord : Try.prog.built 46 [] = some (ordC zeroC noF) := by kernel_rfl
/-- the plan of an order -/
theorem HeldB.planOf {W : World} {B : Nat} {C : Array Value} {F : Nat → Nat → Nat → Bool} (h : HeldB W B 46 (ordC C F)) : W.rangeAt B 0 C.toList := fun j v hv => by
  have hj : j < C.size := by
    have := (List.getElem?_eq_some_iff.1 hv).1
    simpa using this
  rw [Nat.zero_add, h.cell j, ordC_lo F hj, ← hv]; simp
theorem plan_len {C : Array Value} (h : C.size = 39) : (Try.prog.info? 41).map (·.size) = some C.toList.length := by rw [Array.length_toList, h]; kernel_rfl

/-- how far the leading on over one room has come -/
def midF (f : Nat → Nat → Bool) (c i j : Nat) (a b : Nat) : Bool := if a < i ∨ a = i ∧ b < j then wars f (c + 1) a b else wars f c a b
theorem midF_to (f : Nat → Nat → Bool) (c i j a : Nat) : midF f c i j a c = wars f c a c := by
  unfold midF; split
  · exact wars_to f c a
  · rfl
theorem midF_from (f : Nat → Nat → Bool) (c i j b : Nat) : midF f c i j c b = wars f c c b := by
  unfold midF; split
  · exact wars_from f c b
  · rfl
theorem midF_here (f : Nat → Nat → Bool) (c i j : Nat) : midF f c i j i j = wars f c i j := by unfold midF; rw [if_neg (by omega)]
theorem midF_zero (f : Nat → Nat → Bool) (c a b : Nat) : midF f c 0 0 a b = wars f c a b := by unfold midF; rw [if_neg (by omega)]
theorem midF_step (f : Nat → Nat → Bool) (c i j a b : Nat) : midF f c i (j + 1) a b = if a = i ∧ b = j then wars f (c + 1) i j else midF f c i j a b := by
  unfold midF
  by_cases h : a = i ∧ b = j
  · obtain ⟨rfl, rfl⟩ := h; rw [if_pos (by omega), if_pos ⟨rfl, rfl⟩]
  · rw [if_neg h]
    by_cases h2 : a < i ∨ a = i ∧ b < j
    · rw [if_pos h2, if_pos (by omega)]
    · rw [if_neg h2, if_neg (by omega)]
theorem midF_row {f : Nat → Nat → Bool} {n : Nat} (hf : ∀ a b, f a b = true → a < n ∧ b < n) (c i : Nat) (a b : Nat) : midF f c i n a b = midF f c (i + 1) 0 a b := by
  unfold midF
  by_cases h : a < i ∨ a = i ∧ b < n
  · rw [if_pos h, if_pos (by omega)]
  · rw [if_neg h]
    by_cases h2 : a < i + 1 ∨ a = i + 1 ∧ b < 0
    · rw [if_pos h2]
      have hb : n ≤ b := by omega
      have z : ∀ k, wars f k a b = false := fun k => by
        rw [Bool.eq_false_iff]; intro e; have := (wars_in hf k a b e).2; omega
      rw [z, z]
    · rw [if_neg h2]
theorem midF_all {f : Nat → Nat → Bool} {n : Nat} (hf : ∀ a b, f a b = true → a < n ∧ b < n) (c : Nat) (a b : Nat) : midF f c n 0 a b = wars f (c + 1) a b := by
  unfold midF
  by_cases h : a < n ∨ a = n ∧ b < 0
  · rw [if_pos h]
  · rw [if_neg h]
    have z : ∀ k, wars f k a b = false := fun k => by
      rw [Bool.eq_false_iff]; intro e; have := (wars_in hf k a b e).1; omega
    rw [z, z]
/-- leads of one way in place of others -/
def wayF' (F : Nat → Nat → Nat → Bool) (way : Nat) (f : Nat → Nat → Bool) : Nat → Nat → Nat → Bool := fun w a b => if w = way then f a b else F w a b
theorem wayF_at (F : Nat → Nat → Nat → Bool) (way : Nat) (f : Nat → Nat → Bool) (a b : Nat) : wayF' F way f way a b = f a b := if_pos rfl
theorem wayF_put (F : Nat → Nat → Nat → Bool) (way : Nat) (f : Nat → Nat → Bool) (c i j : Nat) : putF (wayF' F way (midF f c i j)) way i j (wars f (c + 1) i j) = wayF' F way (midF f c i (j + 1)) := by
  funext w a b
  unfold putF wayF'
  rw [midF_step]
  by_cases h1 : w = way
  · rw [if_pos h1, if_pos h1]
    by_cases h2 : a = i ∧ b = j
    · rw [if_pos ⟨h1, h2⟩, if_pos h2]
    · rw [if_neg (fun e => h2 e.2), if_neg h2]
  · rw [if_neg (fun e => h1 e.1), if_neg h1, if_neg h1]
theorem wayF_congr (F : Nat → Nat → Nat → Bool) (way : Nat) {f f' : Nat → Nat → Bool} (h : ∀ a b, f a b = f' a b) : wayF' F way f = wayF' F way f' := by
  funext w a b; unfold wayF'; split
  · exact h a b
  · rfl

end Go.Proofs.Yteallnkaapdifaa
