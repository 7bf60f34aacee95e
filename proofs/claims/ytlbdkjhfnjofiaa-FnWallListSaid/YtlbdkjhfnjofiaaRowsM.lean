
/-
  Lists of lists compared by the laws; walls in order. (A walk, and mathematics.)
-/
import Derived.Test.YtlbdkjhfnjofiaaLaws
import Derived.Test.YtlbdkjhfnjofiaaList
import Derived.Test.YtlbdkjhfnjofiaaLong
import Derived.BigQuiet
namespace Go.Proofs.Ytlbdkjhfnjofiaa
open Go.RowKit

theorem sameI_any_below (ao bo : Option Addr) (ca cb : Nat) (l : List Int) (w : World) (hl : l.length ≤ maxLen)
    (ha : CellsAt w ao (l.map (Value.int .i64))) (hb : CellsAt w bo (l.map (Value.int .i64))) :
    Calls Try.prog 78 #[.slice ao l.length ca, .slice bo l.length cb] w fun e w' => e = .returned (.bool true) ∧ Below w.heap.size w w' :=
  (sameInts_any ao bo ca cb _ _ l l w rfl rfl hl ha hb).mono fun e w' h => by rw [eqI_self] at h; exact ⟨h.1, quiet_below h.2⟩

set_option maxRecDepth 100000 in
set_option maxHeartbeats 2000000 in
/-- a list of lists compared with itself -/
theorem sameRows_same (ao bo : Option Addr) (ca cb ba bb : Nat) (T : List (List Int)) (us vs : List Value) (w : World) (hT : T.length ≤ 1048576) (hTl : ∀ l ∈ T, l.length ≤ 1048576)
    (ha : RowsAt w ba ao ca T us) (hb : RowsAt w bb bo cb T vs) :
    Calls Try.prog 30 #[.slice ao T.length ca, .slice bo T.length cb] w fun e w' => e = .returned (.bool true) ∧ Below w.heap.size w w' := by
  have hne : ((T.length : Int) != (T.length : Int)) = false := by simp
  have HA := Lib.hid ha; have HB := Lib.hid hb
  have HTL := Lib.hid hTl
  clear ha hb hTl
  go_enter Try.func30, Try.ntmps30
  go_wp2
  go_loopw [5] (fun vi wr => ∃ i : Nat, i ≤ T.length ∧ vi = .int .i64 i ∧ Below w.heap.size w wr) (fun vi _ => T.length - (intOf vi).toNat)
  case atStart => exact ⟨0, Nat.zero_le _, rfl, Below.refl _ _⟩
  case round =>
    obtain ⟨i, hi, rfl, hB⟩ := hrel
    by_cases hlt : i < T.length
    · have hlt' : decide ((i : Int) < (T.length : Int)) = true := by rw [decide_eq_true_eq]; omega
      obtain ⟨b1, o1, g1, c1, rfl, k1, w1, _⟩ := (HA.out.below hB).cellRow hlt
      obtain ⟨b2, o2, g2, c2, rfl, k2, w2, _⟩ := (HB.out.below hB).cellRow hlt
      have hll := HTL.out _ (getD_mem [] hlt)
      generalize T.getD i [] = l at *
      have hm : l.length ≤ maxLen := by unfold maxLen; omega
      have HEQ := Lib.hid (fun (d : Nat) (os : Array Obj) => Calls.regrown_of (sameI_any_below g1 g2 c1 c2 l (Sort.grow (redrawn wr d) os) hm ((owns_cells w1).below (below_regrown wr d os)) ((owns_cells w2).below (below_regrown wr d os))))
      have q1 : ∀ r : Regrown, (Sort.grow (redrawn wr r.d) r.os).cell? ⟨b1, o1 + i, none⟩ = some (.slice g1 l.length c1) := fun r => cell_regrown k1 r.d r.os
      have q2 : ∀ r : Regrown, (Sort.grow (redrawn wr r.d) r.os).cell? ⟨b2, o2 + i, none⟩ = some (.slice g2 l.length c2) := fun r => cell_regrown k2 r.d r.os
      clear k1 k2 w1 w2
      go_wp2
      refine wp_region_quiet_below (by kernel_rfl) (by kernel_rfl) ?_
      repeat (first | go_big_quiet_step (with_reducible exact HEQ.out _ _) | quiet_step (with_reducible exact HEQ.out _ _))
      refine wpQuiet_nil ?_
      rintro _ ⟨r, rfl⟩
      have hb7 := below_regrown wr r.d r.os
      generalize Sort.grow (redrawn wr r.d) r.os = W7 at *
      go_wp2
      go_roundw
      case rel => exact ⟨i + 1, by omega, by go_num, below_step hB hB.size hb7⟩
      case measure => simp [intOf]; omega
    · obtain rfl : i = T.length := by omega
      have hlt' : decide ((T.length : Int) < (T.length : Int)) = false := by rw [decide_eq_false_iff_not]; omega
      go_wp2
      go_ret
      exact ⟨rfl, hB⟩


theorem walls_way {h wd : Nat} {g : Nat → Nat → Nat} {i : Nat} (hi : i < (wallsG h wd g).length) : ((wallsG h wd g).getD i zeroWl).way = if i < (upW h wd g).length then 0 else 1 := by
  unfold wallsG at hi ⊢
  rw [List.length_append] at hi
  by_cases h1 : i < (upW h wd g).length
  · rw [if_pos h1, List.getD_eq_getElem?_getD, List.getElem?_append_left h1, ← List.getD_eq_getElem?_getD]
    exact ways_up _ (getD_mem zeroWl h1)
  · rw [if_neg h1, List.getD_eq_getElem?_getD, List.getElem?_append_right (by omega), ← List.getD_eq_getElem?_getD]
    exact ways_lv _ (getD_mem zeroWl (by omega))
theorem walls_order {p : List ByteArray} {i j : Nat} (hi : i < (wallsP p).length) (hj : j ≤ i) : ((wallsP p).getD j zeroWl).way ≤ ((wallsP p).getD i zeroWl).way := by
  unfold wallsP at hi ⊢
  rw [walls_way hi, walls_way (Nat.lt_of_le_of_lt hj hi)]
  split
  · exact Nat.zero_le _
  · rw [if_neg (by omega)]; exact Nat.le_refl _
theorem wall_in {p : List ByteArray} (h : planB p = true) {i : Nat} (hi : i < (wallsP p).length) : ∀ X, (wallsP p).getD i zeroWl = X → X.way < 2 ∧ 1 ≤ X.line ∧ X.line < (if X.way = 0 then wideB p else p.length) ∧ 1 ≤ X.long ∧ X.first + X.long ≤ (if X.way = 0 then p.length else wideB p) := by
  intro X hX
  have hm := getD_mem zeroWl hi
  rw [hX] at hm
  obtain ⟨a, b, c, d, e, _⟩ := wallsG_mem hm
  unfold acrossN planH planW at c
  unfold alongN planH planW at e
  simp only [if_pos h] at c e
  exact ⟨a, b, c, d, e⟩
theorem walls_count (p : List ByteArray) : (wallsP p).length = manyU p + manyV p ∧ cntW 0 (wallsP p) = manyU p := by
  obtain ⟨a, b⟩ := many_walls p
  refine ⟨?_, a⟩
  rw [← a, ← b]
  unfold wallsP
  rw [(cntW_walls _ _ _).1, (cntW_walls _ _ _).2]
  unfold wallsG
  rw [List.length_append]

end Go.Proofs.Ytlbdkjhfnjofiaa
