
/-
  Merged texts: LongA LongB.
-/
import Derived.Test.YtpgcpmfemcfoaaaSpecWX
import Derived.Test.YtpgcpmfemcfoaaaArr

/-
  The longest wall: comparing, searching. (Walks, and the mathematics of it.)
-/
namespace Go.Proofs.Ytpgcpmfemcfoaaa
open Go.RowKit

def cmpI (a b : Int) : Int := if a < b then -1 else if b < a then 1 else 0
theorem cmpI_pos {a b : Int} : (0 < cmpI a b) ↔ b < a := by
  unfold cmpI; split
  · omega
  · split <;> omega

set_option maxHeartbeats 400000 in
theorem isNaN_any (a : Int) (w : World) : Calls Try.prog 135 #[.int .i64 a] w fun e w' => e = .returned (.bool false) ∧ w' = w := by
  have hn : (a != a) = false := by simp
  go_enter Try.func135, Try.ntmps135
  go_wp2
  go_ret
  exact ⟨rfl, rfl⟩

set_option maxHeartbeats 400000 in
theorem compare_any (a b : Int) (w : World) : Calls Try.prog 112 #[.int .i64 a, .int .i64 b] w fun e w' => e = .returned (.int .i64 (cmpI a b)) ∧ w' = w := by
  by_cases h1 : a < b
  · have HC := Lib.hid (show cmpI a b = -1 from if_pos h1)
    go_enter Try.func112, Try.ntmps112
    go_wp2_with (go_at_call 135; refine (isNaN_any _ _).mono ?_; rintro e w1 ⟨rfl, rfl⟩)
    go_ret
    exact ⟨ret_int HC.out.symm, rfl⟩
  · by_cases h2 : b < a
    · have HC := Lib.hid (show cmpI a b = 1 by unfold cmpI; rw [if_neg h1, if_pos h2])
      go_enter Try.func112, Try.ntmps112
      go_wp2_with (go_at_call 135; refine (isNaN_any _ _).mono ?_; rintro e w1 ⟨rfl, rfl⟩)
      go_ret
      exact ⟨ret_int HC.out.symm, rfl⟩
    · have HC := Lib.hid (show cmpI a b = 0 by unfold cmpI; rw [if_neg h1, if_neg h2])
      go_enter Try.func112, Try.ntmps112
      go_wp2_with (go_at_call 135; refine (isNaN_any _ _).mono ?_; rintro e w1 ⟨rfl, rfl⟩)
      go_ret
      exact ⟨ret_int HC.out.symm, rfl⟩

/-- the place of the first of the longest walls among the first of a list -/
def lngAt (L : List Wl) : Nat → Nat
  | 0 => 0
  | i + 1 => if (L.getD (lngAt L i) zeroWl).long < (L.getD i zeroWl).long then i else lngAt L i

theorem lngAt_lt (L : List Wl) : ∀ i, 0 < i → lngAt L i < i
  | 0, h => by omega
  | i + 1, _ => by
    unfold lngAt
    split
    · omega
    · rcases Nat.eq_zero_or_pos i with rfl | h
      · exact Nat.lt_succ_of_le (Nat.le_refl 0)
      · have := lngAt_lt L i h; omega
theorem lngAt_one (L : List Wl) : lngAt L 1 = 0 := by
  unfold lngAt; unfold lngAt; rw [if_neg (by omega)]
theorem lngAt_yes {L : List Wl} {i : Nat} (h : (L.getD (lngAt L i) zeroWl).long < (L.getD i zeroWl).long) : lngAt L (i + 1) = i := if_pos h
theorem lngAt_no {L : List Wl} {i : Nat} (h : ¬ (L.getD (lngAt L i) zeroWl).long < (L.getD i zeroWl).long) : lngAt L (i + 1) = lngAt L i := if_neg h
/-- those ahead of it are shorter -/
theorem lngAt_first (L : List Wl) : ∀ i j, j < lngAt L i → (L.getD j zeroWl).long < (L.getD (lngAt L i) zeroWl).long
  | 0, j, h => by unfold lngAt at h; omega
  | i + 1, j, h => by
    have hall : ∀ i j, j < i → (L.getD j zeroWl).long ≤ (L.getD (lngAt L i) zeroWl).long := by
      intro i
      induction i with
      | zero => intro j h; omega
      | succ i ih =>
        intro j hj
        by_cases hc : (L.getD (lngAt L i) zeroWl).long < (L.getD i zeroWl).long
        · rw [lngAt_yes hc]
          rcases Nat.lt_or_ge j i with h' | h'
          · have := ih j h'; omega
          · obtain rfl : j = i := by omega
            exact Nat.le_refl _
        · rw [lngAt_no hc]
          rcases Nat.lt_or_ge j i with h' | h'
          · exact ih j h'
          · obtain rfl : j = i := by omega
            omega
    by_cases hc : (L.getD (lngAt L i) zeroWl).long < (L.getD i zeroWl).long
    · rw [lngAt_yes hc] at h ⊢
      have := hall i j h; omega
    · rw [lngAt_no hc] at h ⊢
      exact lngAt_first L i j h

theorem range_below {w w' : World} {b o : Nat} {cs : List Value} (h : w.rangeAt b o cs) (hb : Below w.heap.size w w') : w'.rangeAt b o cs := fun j v hv => cell_below (h j v hv) hb

theorem HeldB.range {W : World} {B : Nat} {t : TypeId} {C : Array Value} (h : HeldB W B t C) : W.rangeAt B 0 C.toList := fun j v hv => by
  rw [Nat.zero_add, h.cell j, ← hv]; simp
theorem range_regrown {w : World} {b o : Nat} {cs : List Value} (h : w.rangeAt b o cs) : ∀ w', (∃ p : Regrown, w' = Sort.grow (redrawn w p.d) p.os) → w'.rangeAt b o cs := by
  rintro _ ⟨r, rfl⟩
  exact range_below h (below_regrown w r.d r.os)

theorem run_eql_wl (x y : Wl) (w : World) : (binOp .eql 108 (.agg (wlC x)) (.agg (wlC y))).run Try.prog w = .ok (.bool (!neW x y)) w := by
  have u3 := Try.underlying3
  have a3 := Try.isAgg3
  have z3 := Try.sizeOf3
  have hS : Try.prog.underlying 108 = some (.struct (Try.prog.fieldsOf 108)) := by kernel_rfl
  have hp : Try.prog.stoodInHeld 108 = false := by kernel_rfl
  have h : (Op.equalIn 10000 108 (.agg (wlC x)) (.agg (wlC y))).run Try.prog w = .ok (!neW x y) w := by
    rw [show (10000 : Nat) = 9999 + 1 from rfl, run_equalIn_agg w 9999 108 _ _ hS hp]
    simp only [Program.fieldsOf, Try.underlying108, wlC]
    go_simp
    unfold neW
    by_cases h1 : x.way = y.way <;> by_cases h2 : x.line = y.line <;> by_cases h3 : x.first = y.first <;> by_cases h4 : x.long = y.long <;> simp [h1, h2, h3, h4] <;> omega
  simp only [binOp]
  simp [Op.equal, Op.maxDepth, h]

/-! ### the longest wall -/

def longOk (p : List ByteArray) : Bool := decide (0 < (wallsP p).length)
def longI (p : List ByteArray) : Nat := if longOk p = true then lngAt (wallsP p) (wallsP p).length else 0
def longN (p : List ByteArray) : Nat := if longOk p = true then ((wallsP p).getD (lngAt (wallsP p) (wallsP p).length) zeroWl).long else 0

end Go.Proofs.Ytpgcpmfemcfoaaa

/-
  The longest wall: the model's answer. (Walk.)
-/
namespace Go.Proofs.Ytpgcpmfemcfoaaa
open Go.RowKit

theorem wlN_getD {L : List Wl} {i : Nat} (hi : i < L.length) : (L.map wlN).getD i [] = wlN (L.getD i zeroWl) := by simp [hi]
/-- a wall's four numbers, read out of a slice of slices -/
theorem rows_wl {w : World} {base : Nat} {uo : Option Addr} {uc : Nat} {L : List Wl} {us : List Value} (h : RowsAt w base uo uc (L.map wlN) us) {i : Nat} (hi : i < L.length) :
    ∃ bb off g c, uo = some ⟨bb, off, none⟩ ∧ w.cell? ⟨bb, off + i, none⟩ = some (.slice (some ⟨g, 0, none⟩) 4 c) ∧ w.cell? ⟨g, 0, none⟩ = some (.int .i64 ((L.getD i zeroWl).way : Nat)) ∧
      w.cell? ⟨g, 1, none⟩ = some (.int .i64 ((L.getD i zeroWl).line : Nat)) ∧ w.cell? ⟨g, 2, none⟩ = some (.int .i64 ((L.getD i zeroWl).first : Nat)) ∧ w.cell? ⟨g, 3, none⟩ = some (.int .i64 ((L.getD i zeroWl).long : Nat)) := by
  have hl : i < (L.map wlN).length := by rw [List.length_map]; exact hi
  obtain ⟨bb, off, g, c, h1, h2, h3, _⟩ := h.row hl (by rw [wlN_getD hi]; exact Nat.succ_pos _)
  rw [wlN_getD hi] at h2 h3
  have key : ∀ j v, (wlN (L.getD i zeroWl))[j]? = some v → w.cell? ⟨g, j, none⟩ = some (.int .i64 v) := fun j v hv => by
    obtain ⟨b', o', he, hc⟩ := h3 j (.int .i64 v) (by rw [List.getElem?_map, hv]; rfl)
    simp only [Option.some.injEq, Addr.mk.injEq, and_true] at he
    obtain ⟨rfl, rfl⟩ := he
    rwa [Nat.zero_add] at hc
  exact ⟨bb, off, g, c, h1, h2, key 0 _ rfl, key 1 _ rfl, key 2 _ rfl, key 3 _ rfl⟩

theorem planB_walls {p : List ByteArray} (h : longOk p = true) : planB p = true := by
  cases hp : planB p
  · unfold longOk at h; rw [wallsP_no hp] at h; simp at h
  · rfl

end Go.Proofs.Ytpgcpmfemcfoaaa
