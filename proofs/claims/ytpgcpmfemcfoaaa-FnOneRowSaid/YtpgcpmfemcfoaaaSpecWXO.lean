/-
  Merged texts: SpecW WallK SpecX.
-/
import Derived.Test.YtpgcpmfemcfoaaaWallsO
import Derived.Test.YtpgcpmfemcfoaaaNestsO
import Derived.Test.YtpgcpmfemcfoaaaTurnsO
import Derived.Test.YtpgcpmfemcfoaaaImplGHO
import Derived.Deep.MidRow

/-
  The model's walls. (Walks.)
-/
namespace Go.Proofs.Ytpgcpmfemcfoaaa
open Go.RowKit

/-- two letters beside each other differ -/
def upB (p : List ByteArray) (k i : Nat) : Bool := decide (i < p.length) && decide (byteAt p i (k - 1) ≠ byteAt p i k)
def wlL (x : Wl) : List Int := [x.line, x.first, x.long]
/-- the model's walls between columns, of the lines ahead of one -/
def upL (p : List ByteArray) (k : Nat) : List (List Int) := (linesW 0 (upB p) p.length k).map wlL
def runL (k : Nat) (l : List (Nat × Nat)) : List (List Int) := l.map fun x => [(k : Int), x.1, x.2]

theorem upL_step (p : List ByteArray) (k : Nat) (h : 1 ≤ k) : upL p (k + 1) = upL p k ++ runL k (lineW (upB p k) p.length p.length) := by
  unfold upL runL; rw [linesW_succ h, List.map_append, List.map_map]; rfl
theorem upL_len (p : List ByteArray) (k : Nat) : (upL p k).length ≤ k * p.length := by
  unfold upL; rw [List.length_map]; exact linesW_len _ _ _ _
theorem runL_snoc (k : Nat) (l : List (Nat × Nat)) (s e : Nat) : runL k (l ++ [(s, e)]) = runL k l ++ [[(k : Int), s, e]] := by simp [runL]
theorem runL_len (k : Nat) (l : List (Nat × Nat)) : (runL k l).length = l.length := by simp [runL]

set_option maxRecDepth 100000 in
set_option maxHeartbeats 4000000 in
theorem l2Upright_any (ao : Option Addr) (cap n : Nat) (p : List ByteArray) (w : World) (hn : p.length = n) (h1 : 1 ≤ p.length) (hl : p.length ≤ 6) (w1 : 1 ≤ wideB p) (hw : wideB p ≤ 6) (he : Even p)
    (hc : CellsAt w ao (p.map Value.string)) :
    Calls Try.prog 140 #[.slice ao n cap] w
      fun e w' => ∃ ro rc, e = .returned (.slice ro (upL p (wideB p)).length rc) ∧ RowsOwn w' w.heap.size ro rc (upL p (wideB p)) ∧ Below w.heap.size w w' := by
  subst hn
  obtain ⟨ir, hri, hrz, hr1, hr2⟩ := info_parts Try.infoRow
  have HSZ := Lib.hid (show ∀ i, i < p.length → (p.getD i ByteArray.empty).size = wideB p from he)
  have HC := Lib.hid hc
  obtain ⟨b0, off0, ha0, hc0⟩ := hc.str 0 (by omega)
  subst ha0
  rw [Nat.add_zero] at hc0
  have hs0 : (p.getD 0 ByteArray.empty).size = wideB p := rfl
  generalize p.getD 0 ByteArray.empty = s0 at *
  have hp0 : 0 < p.length := h1
  clear hc he
  go_enter Try.func140, Try.ntmps140
  go_wp2
  have hW1 := below_alloc w (.cells #[] 32)
  have hR1 := rowsOwn_made w
  go_loopw [3, 4] (fun vo vk wr => ∃ (k : Nat) (ro : Option Addr) (rc : Nat), 1 ≤ k ∧ k ≤ wideB p ∧ vk = .int .i64 k ∧ vo = .slice ro (upL p k).length rc ∧ RowsOwn wr w.heap.size ro rc (upL p k) ∧ Below w.heap.size w wr) (fun _ k _ => wideB p - (intOf k).toNat)
  case atStart => exact ⟨1, _, _, Nat.le_refl _, w1, rfl, rfl, hR1, hW1⟩
  case round =>
    clear hR1 hW1
    obtain ⟨k, ro, rc, hk1, hk, rfl, rfl, hrow, hb⟩ := hrel
    have hc0r := cell_below hc0 hb
    by_cases hlt : k < wideB p
    · have hkm' : decide ((k : Int) < (wideB p : Int)) = true := by rw [decide_eq_true_eq]; omega
      have HST := Lib.hid (upL_step p k hk1)
      have HUL := Lib.hid (upL_len p k)
      have hkn : k * p.length ≤ 5 * 6 := Nat.mul_le_mul (by omega) hl
      have hAk : (upL p k).length ≤ 30 := by have := HUL.out; omega
      generalize hA : upL p k = A at *
      have HA := Lib.hid hA; clear hA
      go_wp2
      obtain ⟨f, hf⟩ : ∃ f, upB p k = f := ⟨_, rfl⟩
      rw [hf] at HST
      have HF := Lib.hid hf; clear hf
      go_loopw [3, 5, 6] (fun vo vf vi wm => ∃ (i : Nat) (ro : Option Addr) (rc : Nat), i ≤ p.length + 1 ∧ vi = .int .i64 i ∧ vf = .int .i64 (openW f i) ∧ vo = .slice ro (A ++ runL k (doneW f p.length i)).length rc ∧ RowsOwn wm w.heap.size ro rc (A ++ runL k (doneW f p.length i)) ∧ Below w.heap.size w wm) (fun _ _ vi _ => p.length + 1 - (intOf vi).toNat)
      case atStart => exact ⟨0, ro, rc, by omega, rfl, by rw [openW_zero], by rw [doneW_zero]; simp [runL], by rw [doneW_zero]; simpa [runL] using hrow, hb⟩
      case round =>
        clear hrow hb hc0r
        obtain ⟨i, ro, rc, hi, rfl, rfl, rfl, hrow, hb⟩ := hrel
        have hbs := hb.size
        have hbd := openW_bound f i
        have hdl := doneW_len f p.length i
        have hrl := runL_len k (doneW f p.length i)
        by_cases hin : i < p.length
        · obtain ⟨b2, off2, ha2, hc2⟩ := (HC.out.below hb).str i hin
          simp only [Option.some.injEq, Addr.mk.injEq, and_true] at ha2
          obtain ⟨rfl, rfl⟩ := ha2
          have hk1' : (k : Int) - 1 = ((k - 1 : Nat) : Int) := by omega
          have hcs : k < (p.getD i ByteArray.empty).size := by rw [HSZ.out i hin]; omega
          have hcs' : k - 1 < (p.getD i ByteArray.empty).size := by omega
          have hidx := at_list (p.getD i ByteArray.empty) k hcs
          have hidx' := at_list (p.getD i ByteArray.empty) (k - 1) hcs'
          have hfi0 : f i = decide (byteAt p i (k - 1) ≠ byteAt p i k) := by rw [← HF.out]; unfold upB; rw [decide_eq_true hin, Bool.true_and]
          have hil : decide ((i : Int) ≤ (p.length : Int)) = true := by rw [decide_eq_true_eq]; omega
          have hil2 : decide ((i : Int) < (p.length : Int)) = true := by rw [decide_eq_true_eq]; omega
          unfold byteAt at hfi0
          generalize (p.getD i ByteArray.empty).data.toList.getD k 0 = c at *
          generalize (p.getD i ByteArray.empty).data.toList.getD (k - 1) 0 = d at *
          generalize p.getD i ByteArray.empty = s1 at *
          by_cases hcd : d = c
          · have hne : ((d.toNat : Int) != (c.toNat : Int)) = false := by rw [hcd]; simp
            have hfi : f i = false := by rw [hfi0]; simp [hcd]
            have HCD := Lib.hid hcd; clear hcd hfi0
            by_cases ho : openW f i < 0
            · have ho1 : decide (openW f i < 0) = true := decide_eq_true ho
              have ho2 : decide (0 ≤ openW f i) = false := by rw [decide_eq_false_iff_not]; omega
              obtain ⟨e1, e2⟩ := scan_none (n := p.length) hfi ho
              have HE1 := Lib.hid e1; have HE2 := Lib.hid e2; clear e1 e2
              have hBl : (A ++ runL k (doneW f p.length i)).length ≤ 40 := by rw [List.length_append]; omega
              clear hdl hrl
              generalize hBQ : A ++ runL k (doneW f p.length i) = BQ at *
              have HBQ := Lib.hid hBQ; clear hBQ
              clear ho hbd
              go_wp2
              go_quiet (fail)
              go_wp2
              go_roundw
              case rel => exact ⟨i + 1, ro, rc, by omega, by go_num, by rw [HE1.out], by rw [HE2.out, HBQ.out], by rw [HE2.out, HBQ.out]; exact hrow.below (below_drewN _ _ _), hb.trans (below_drewN _ _ _)⟩
              case measure => simp [intOf]; omega
            · have ho1 : decide (openW f i < 0) = false := decide_eq_false ho
              have ho2 : decide (0 ≤ openW f i) = true := by rw [decide_eq_true_eq]; omega
              obtain ⟨e1, s, hs, e3, e2⟩ := scan_end (n := p.length) hfi (by omega) ho
              have HE1 := Lib.hid e1; have HE2 := Lib.hid e2; clear e1 e2
              have his : (i : Int) - (s : Int) = ((i - s : Nat) : Int) := by omega
              rw [e3] at ho1 ho2 ⊢
              clear e3 ho hbd
              have HSN := Lib.hid (runL_snoc k (doneW f p.length i) s (i - s))
              obtain ⟨us, hus⟩ := hrow
              have hBl : (A ++ runL k (doneW f p.length i)).length ≤ 40 := by rw [List.length_append]; omega
              clear hdl hrl
              generalize hBQ : A ++ runL k (doneW f p.length i) = BQ at *
              have HBQ := Lib.hid hBQ; clear hBQ
              have h63 : BQ.length + 1 ≤ maxLen := by unfold maxLen; omega
              have h64 : (BQ.length + 1) * 24 ≤ 140737488355328 := by omega
              go_wp2
              go_quiet (fail)
              have hus1 := hus.below (below_drewN wr.heap.size wr nq)
              go_wp2_with (at_builtin; go_loud (refine wpList_push _ rfl _ _ 90 rfl w.heap.size 32 ir (.slice none 0 0) 24 Try.underlying90 hri hrz hr1 hr2 rfl ro BQ.length rc us rfl (ownsRow_below (ownsRow_below hus1.1 (below_alloc _ _)) (below_alloc _ _)) (.slice (some ⟨wr.heap.size, 0, none⟩) 3 3) _ _ rfl (cell_new2 (wr.drewN nq) _ _ _) rfl h63 h64 (by simp; omega) ?_); intro ro2 rc2 w2 hown2 hg2 hnew2)
              have hlt2 := owns_lt hus.1
              have hus2 := hus1.push (l := [(k : Int), s, (i - s : Nat)]) ((below_alloc (wr.drewN nq) (.cells #[.int .i64 k, .int .i64 s, .int .i64 (i - s : Nat)] 3)).trans ((below_alloc _ _).mono (by simp))) (ownsRow_below (owns_lit (wr.drewN nq) w.heap.size 3 [.int .i64 k, .int .i64 s, .int .i64 (i - s : Nat)] hbs (by simp [maxLen])) (below_alloc _ _)) (fun a ha => by cases ha; simp) hown2 hg2 hnew2
              have hb2 := below_of_grownBy' (((hb.trans (below_drewN _ _ nq)).trans ((below_alloc _ (.cells #[.int .i64 k, .int .i64 s, .int .i64 (i - s : Nat)] 3)).mono (by simp; omega))).trans ((below_alloc _ _).mono (by simp; omega))) hg2 (fun a ha => (hlt2 a ha).1)
              go_roundw
              case rel => exact ⟨i + 1, ro2, rc2, by omega, by go_num, by rw [HE1.out], by rw [HE2.out, HSN.out, ← List.append_assoc, HBQ.out, List.length_append]; rfl, by rw [HE2.out, HSN.out, ← List.append_assoc, HBQ.out]; exact ⟨_, hus2⟩, hb2⟩
              case measure => simp [intOf]; omega
          · have hne : ((d.toNat : Int) != (c.toNat : Int)) = true := by
              rw [bne_iff_ne]; intro h'; exact hcd (UInt8.toNat_inj.1 (by omega))
            have hfi : f i = true := by rw [hfi0]; simp [hcd]
            have HCD := Lib.hid hcd; clear hcd hfi0
            by_cases ho : openW f i < 0
            · have ho1 : decide (openW f i < 0) = true := decide_eq_true ho
              have ho2 : decide (0 ≤ openW f i) = false := by rw [decide_eq_false_iff_not]; omega
              obtain ⟨e1, e2⟩ := scan_begin (n := p.length) hfi ho
              have HE1 := Lib.hid e1; have HE2 := Lib.hid e2; clear e1 e2
              have hBl : (A ++ runL k (doneW f p.length i)).length ≤ 40 := by rw [List.length_append]; omega
              clear hdl hrl
              generalize hBQ : A ++ runL k (doneW f p.length i) = BQ at *
              have HBQ := Lib.hid hBQ; clear hBQ
              clear ho hbd
              go_wp2
              go_quiet (fail)
              go_wp2
              go_roundw
              case rel => exact ⟨i + 1, ro, rc, by omega, by go_num, by rw [HE1.out], by rw [HE2.out, HBQ.out], by rw [HE2.out, HBQ.out]; exact hrow.below (below_drewN _ _ _), hb.trans (below_drewN _ _ _)⟩
              case measure => simp [intOf]; omega
            · have ho1 : decide (openW f i < 0) = false := decide_eq_false ho
              have ho2 : decide (0 ≤ openW f i) = true := by rw [decide_eq_true_eq]; omega
              obtain ⟨e1, e2⟩ := scan_on (n := p.length) hfi ho
              have HE1 := Lib.hid e1; have HE2 := Lib.hid e2; clear e1 e2
              have hBl : (A ++ runL k (doneW f p.length i)).length ≤ 40 := by rw [List.length_append]; omega
              clear hdl hrl
              generalize hBQ : A ++ runL k (doneW f p.length i) = BQ at *
              have HBQ := Lib.hid hBQ; clear hBQ
              clear ho hbd
              go_wp2
              go_quiet (fail)
              go_wp2
              go_roundw
              case rel => exact ⟨i + 1, ro, rc, by omega, by go_num, by rw [HE1.out], by rw [HE2.out, HBQ.out], by rw [HE2.out, HBQ.out]; exact hrow.below (below_drewN _ _ _), hb.trans (below_drewN _ _ _)⟩
              case measure => simp [intOf]; omega
        · by_cases hie : i = p.length
          · have hfi : f i = false := by rw [← HF.out, hie]; unfold upB; rw [decide_eq_false (by omega)]; rfl
            have hil : decide ((i : Int) ≤ (p.length : Int)) = true := by rw [decide_eq_true_eq]; omega
            have hil2 : decide ((i : Int) < (p.length : Int)) = false := by rw [decide_eq_false_iff_not]; omega
            have hle' : i ≤ p.length := by omega
            have HIE := Lib.hid hie; clear hie
            by_cases ho : openW f i < 0
            · have ho1 : decide (openW f i < 0) = true := decide_eq_true ho
              have ho2 : decide (0 ≤ openW f i) = false := by rw [decide_eq_false_iff_not]; omega
              obtain ⟨e1, e2⟩ := scan_none (n := p.length) hfi ho
              have HE1 := Lib.hid e1; have HE2 := Lib.hid e2; clear e1 e2
              have hBl : (A ++ runL k (doneW f p.length i)).length ≤ 40 := by rw [List.length_append]; omega
              clear hdl hrl
              generalize hBQ : A ++ runL k (doneW f p.length i) = BQ at *
              have HBQ := Lib.hid hBQ; clear hBQ
              clear ho hbd
              go_wp2
              go_quiet (fail)
              go_wp2
              go_roundw
              case rel => exact ⟨i + 1, ro, rc, by omega, by go_num, by rw [HE1.out], by rw [HE2.out, HBQ.out], by rw [HE2.out, HBQ.out]; exact hrow.below (below_drewN _ _ _), hb.trans (below_drewN _ _ _)⟩
              case measure => simp [intOf]; omega
            · have ho1 : decide (openW f i < 0) = false := decide_eq_false ho
              have ho2 : decide (0 ≤ openW f i) = true := by rw [decide_eq_true_eq]; omega
              obtain ⟨e1, s, hs, e3, e2⟩ := scan_end (n := p.length) hfi (by omega) ho
              have HE1 := Lib.hid e1; have HE2 := Lib.hid e2; clear e1 e2
              have his : (i : Int) - (s : Int) = ((i - s : Nat) : Int) := by omega
              rw [e3] at ho1 ho2 ⊢
              clear e3 ho hbd
              have HSN := Lib.hid (runL_snoc k (doneW f p.length i) s (i - s))
              obtain ⟨us, hus⟩ := hrow
              have hBl : (A ++ runL k (doneW f p.length i)).length ≤ 40 := by rw [List.length_append]; omega
              clear hdl hrl
              generalize hBQ : A ++ runL k (doneW f p.length i) = BQ at *
              have HBQ := Lib.hid hBQ; clear hBQ
              have h63 : BQ.length + 1 ≤ maxLen := by unfold maxLen; omega
              have h64 : (BQ.length + 1) * 24 ≤ 140737488355328 := by omega
              go_wp2
              go_quiet (fail)
              have hus1 := hus.below (below_drewN wr.heap.size wr nq)
              go_wp2_with (at_builtin; go_loud (refine wpList_push _ rfl _ _ 90 rfl w.heap.size 32 ir (.slice none 0 0) 24 Try.underlying90 hri hrz hr1 hr2 rfl ro BQ.length rc us rfl (ownsRow_below (ownsRow_below hus1.1 (below_alloc _ _)) (below_alloc _ _)) (.slice (some ⟨wr.heap.size, 0, none⟩) 3 3) _ _ rfl (cell_new2 (wr.drewN nq) _ _ _) rfl h63 h64 (by simp; omega) ?_); intro ro2 rc2 w2 hown2 hg2 hnew2)
              have hlt2 := owns_lt hus.1
              have hus2 := hus1.push (l := [(k : Int), s, (i - s : Nat)]) ((below_alloc (wr.drewN nq) (.cells #[.int .i64 k, .int .i64 s, .int .i64 (i - s : Nat)] 3)).trans ((below_alloc _ _).mono (by simp))) (ownsRow_below (owns_lit (wr.drewN nq) w.heap.size 3 [.int .i64 k, .int .i64 s, .int .i64 (i - s : Nat)] hbs (by simp [maxLen])) (below_alloc _ _)) (fun a ha => by cases ha; simp) hown2 hg2 hnew2
              have hb2 := below_of_grownBy' (((hb.trans (below_drewN _ _ nq)).trans ((below_alloc _ (.cells #[.int .i64 k, .int .i64 s, .int .i64 (i - s : Nat)] 3)).mono (by simp; omega))).trans ((below_alloc _ _).mono (by simp; omega))) hg2 (fun a ha => (hlt2 a ha).1)
              go_roundw
              case rel => exact ⟨i + 1, ro2, rc2, by omega, by go_num, by rw [HE1.out], by rw [HE2.out, HSN.out, ← List.append_assoc, HBQ.out, List.length_append]; rfl, by rw [HE2.out, HSN.out, ← List.append_assoc, HBQ.out]; exact ⟨_, hus2⟩, hb2⟩
              case measure => simp [intOf]; omega
          · obtain rfl : i = p.length + 1 := by omega
            have hil : decide (((p.length + 1 : Nat) : Int) ≤ (p.length : Int)) = false := by rw [decide_eq_false_iff_not]; omega
            have hfi : f p.length = false := by rw [← HF.out]; unfold upB; rw [decide_eq_false (by omega)]; rfl
            have hfin : A ++ runL k (doneW f p.length (p.length + 1)) = upL p (k + 1) := by rw [scan_all hfi, HST.out]
            have HFIN := Lib.hid hfin; clear hfin hfi hbd hdl hrl
            generalize A ++ runL k (doneW f p.length (p.length + 1)) = BQ at *
            go_wp2
            go_roundw
            case rel => exact ⟨k + 1, ro, rc, by omega, by omega, by go_num, by rw [HFIN.out], by rw [← HFIN.out]; exact hrow, hb⟩
            case measure => simp [intOf]; omega
    · obtain rfl : k = wideB p := by omega
      have hkm' : decide ((wideB p : Int) < (wideB p : Int)) = false := by rw [decide_eq_false_iff_not]; omega
      go_wp2
      go_ret
      exact ⟨ro, rc, rfl, hrow, hb⟩

end Go.Proofs.Ytpgcpmfemcfoaaa

/-
  The number of walls: the model's answer and the program's. (Walks, and the mathematics of it.)
-/
namespace Go.Proofs.Ytpgcpmfemcfoaaa
open Go.RowKit

/-! # what a list is read as -/

def planH (p : List ByteArray) : Nat := if planB p = true then p.length else 0
def planW (p : List ByteArray) : Nat := if planB p = true then wideB p else 0
def planR (p : List ByteArray) : Nat := if planB p = true then gridR p else 0
def planG (p : List ByteArray) : Nat → Nat → Nat := if planB p = true then gridG p else fun _ _ => 0

theorem planH_le (p : List ByteArray) : planH p ≤ 6 := by
  unfold planH
  split
  · rename_i h; exact (planP_of h).grid.h6
  · omega
theorem planW_le (p : List ByteArray) : planW p ≤ 6 := by
  unfold planW
  split
  · rename_i h; exact (planP_of h).grid.w6
  · omega
/-- the walls of a list: none, if it is no plan -/
def wallsP (p : List ByteArray) : List Wl := wallsG (planH p) (planW p) (planG p)
theorem wallsP_len (p : List ByteArray) : (wallsP p).length ≤ 72 := wallsG_len (planH_le p) (planW_le p)
theorem wallsP_no {p : List ByteArray} (h : planB p = false) : wallsP p = [] := by
  unfold wallsP planH planW; rw [h]; rfl
theorem wallsP_yes {p : List ByteArray} (h : planB p = true) : wallsP p = wallsG p.length (wideB p) (gridG p) := by
  unfold wallsP planH planW planG; rw [if_pos h, if_pos h, if_pos h]

/-! # the model's letters and the program's rooms -/

theorem ofNat_ne {a b : Nat} (ha : a < 26) (hb : b < 26) : (UInt8.ofNat (97 + a) ≠ UInt8.ofNat (97 + b)) ↔ a ≠ b := by
  constructor
  · intro h e; exact h (by rw [e])
  · intro h e
    apply h
    have := congrArg UInt8.toNat e
    rw [UInt8.toNat_ofNat', UInt8.toNat_ofNat'] at this
    omega
theorem PlanP.differ {p : List ByteArray} (hp : PlanP p) {i j i' j' : Nat} (hi : i < p.length) (hj : j < wideB p) (hi' : i' < p.length) (hj' : j' < wideB p) :
    (byteAt p i j ≠ byteAt p i' j') ↔ gridG p i j ≠ gridG p i' j' := by
  rw [hp.grid.letter hi hj, hp.grid.letter hi' hj', ofNat_ne (markN_lt p i j) (markN_lt p i' j'), hp.mark i j hi hj, hp.mark i' j' hi' hj']

theorem linesW_wl (a b : Nat) (F : Nat → Nat → Bool) (n : Nat) : ∀ k, (linesW a F n k).map wlL = (linesW b F n k).map wlL
  | 0 => rfl
  | k + 1 => by
    unfold linesW
    split
    · exact linesW_wl a b F n k
    · rw [List.map_append, List.map_append, linesW_wl a b F n k, List.map_map, List.map_map]; rfl

theorem upL_grid {p : List ByteArray} (h : planB p = true) : upL p (wideB p) = (upW p.length (wideB p) (gridG p)).map wlL := by
  have hp := planP_of h
  unfold upL upW
  congr 1
  refine linesW_congr fun l i h1 h2 hi => ?_
  unfold upB upF
  rw [decide_eq_true hi, Bool.true_and, Bool.true_and]
  exact decide_eq_decide.2 (hp.differ hi (by omega) hi h2)

theorem trans_byte {p : List ByteArray} {k i : Nat} (hk : k < wideB p) (hi : i < p.length) : byteAt (transB p) k i = byteAt p i k := byteAt_mat hk hi
theorem trans_len (p : List ByteArray) : (transB p).length = wideB p := matB_len _ _ _
theorem trans_wide {p : List ByteArray} (h : 1 ≤ wideB p) : wideB (transB p) = p.length := matB_wide h
theorem trans_even {p : List ByteArray} (h : 1 ≤ wideB p) : Even (transB p) := matB_even h

theorem upL_trans {p : List ByteArray} (h : planB p = true) : upL (transB p) p.length = (lvW p.length (wideB p) (gridG p)).map wlL := by
  have hp := planP_of h
  unfold upL lvW
  rw [trans_len, linesW_wl 0 1]
  congr 1
  refine linesW_congr fun l i h1 h2 hi => ?_
  unfold upB lvF
  rw [trans_len, decide_eq_true hi, Bool.true_and, Bool.true_and, trans_byte hi (by omega), trans_byte hi h2]
  exact decide_eq_decide.2 (hp.differ (by omega) hi h2 hi)

/-! # how many there are -/

theorem ways_up {h wd : Nat} {g : Nat → Nat → Nat} : ∀ x ∈ upW h wd g, x.way = 0 := fun _ hx => (linesW_mem hx).1
theorem ways_lv {h wd : Nat} {g : Nat → Nat → Nat} : ∀ x ∈ lvW h wd g, x.way = 1 := fun _ hx => (linesW_mem hx).1
/-! ### the program's walls, read one by one -/

theorem wpList_load_wl {P : Program} {ops : Array Oper} {rest : List Oper} {op : Oper} {a : Act} {w : World} {Q : Exit → Act → World → Prop} (hgd : op.guard = none) (ty : TypeId) (x : Operand) (ho : op.op = .load ty x)
    (b o : Nat) (hx : a.eval x = .pointer (some ⟨b, o, none⟩)) (X : Wl) (d : TypeDesc) (hc : w.rangeAt b o (wlC X).toList)
    (hu : P.underlying ty = some d) (hd : d.isRow = true) (hi : (P.info? ty).map (·.size) = some 4)
    (h : wpList P ops Q rest (a.put op.dst (.agg (wlC X))) w) : wpList P ops Q (op :: rest) a w :=
  wpList_load_mid hgd ty x ho b o hx (wlC X).toList d hc hu hd hi (by simpa using h)

theorem wls_range {w : World} {ao : Option Addr} {L : List Wl} (h : CellsAt w ao (wlsC L)) {i : Nat} (hi : i < L.length) : ∃ b off, ao = some ⟨b, off, none⟩ ∧ w.rangeAt b (off + i * 4) (wlC (L.getD i zeroWl)).toList := by
  obtain ⟨b, off, rfl, _⟩ := h (i * 4 + 0) _ ((wlsC_at L i 0 hi (by omega)).trans rfl)
  refine ⟨b, off, rfl, fun j v hv => ?_⟩
  have hj : j < 4 := by
    have := (List.getElem?_eq_some_iff.1 hv).1
    simpa [wlC] using this
  obtain ⟨b', off', he, hc⟩ := h (i * 4 + j) v (by rw [wlsC_at L i j hi hj, ← hv]; simp)
  simp only [Option.some.injEq, Addr.mk.injEq, and_true] at he
  obtain ⟨rfl, rfl⟩ := he
  rw [show off + i * 4 + j = off + (i * 4 + j) from by omega]
  exact hc

theorem Try.sizeWl : (Try.prog.info? 108).map (·.size) = some 4 := by kernel_rfl

theorem take_snoc {α : Type} (l : List α) (k : Nat) (z : α) (h : k < l.length) : l.take (k + 1) = l.take k ++ [l.getD k z] := take_succ_getD l k z h

end Go.Proofs.Ytpgcpmfemcfoaaa

/-
  The model's walls, all of them in order. (Walks.)
-/
namespace Go.Proofs.Ytpgcpmfemcfoaaa
open Go.RowKit

def wlN (x : Wl) : List Int := [x.way, x.line, x.first, x.long]
theorem upL_three {p : List ByteArray} {k : Nat} : ∀ l ∈ upL p k, l.length = 3 := fun l hl => by
  unfold upL at hl; rw [List.mem_map] at hl; obtain ⟨x, _, rfl⟩ := hl; rfl

/-- the model's walls, as lists of numbers -/
def wallsL (p : List ByteArray) : List (List Int) := (upL p (wideB p)).map (fun l => 0 :: l) ++ (upL (transB p) p.length).map (fun l => 1 :: l)
theorem wallsL_walls {p : List ByteArray} (h : planB p = true) : wallsL p = (wallsP p).map wlN := by
  unfold wallsL
  rw [upL_grid h, upL_trans h, wallsP_yes h]
  unfold wallsG
  rw [List.map_append, List.map_map, List.map_map]
  congr 1
  · refine List.map_congr_left fun x hx => ?_
    simp [wlN, wlL, ways_up x hx]
  · refine List.map_congr_left fun x hx => ?_
    simp [wlN, wlL, ways_lv x hx]

theorem take_map_snoc {f : List Int → List Int} {U : List (List Int)} {i : Nat} (h : i < U.length) : (U.take (i + 1)).map f = (U.take i).map f ++ [f (U.getD i [])] := by
  rw [take_succ_getD U i [] h, List.map_append]; rfl

set_option maxRecDepth 100000 in
set_option maxHeartbeats 4000000 in
theorem l2WallsE_any (ao : Option Addr) (cap : Nat) (p : List ByteArray) (w : World) (h1 : 1 ≤ p.length) (h6 : p.length ≤ 6) (w1' : 1 ≤ wideB p) (w6 : wideB p ≤ 6) (hev : Even p) (hc : CellsAt w ao (p.map Value.string)) :
    Calls Try.prog 138 #[.slice ao p.length cap] w
      fun e w' => ∃ ro rc, e = .returned (.slice ro (wallsL p).length rc) ∧ RowsOwn w' w.heap.size ro rc (wallsL p) ∧ Below w.heap.size w w' := by
  obtain ⟨ir, hri, hrz, hr1, hr2⟩ := info_parts Try.infoRow
  obtain ⟨im, hmi, hmz, hm1, hm2⟩ := info_parts Try.infoNum
  have HEV := Lib.hid hev
  have HET := Lib.hid (trans_even w1')
  have HTL := Lib.hid (trans_len p); have HTW := Lib.hid (trans_wide w1')
  clear hev
  have HU := Lib.hid (fun (w : World) (hc : CellsAt w ao (p.map Value.string)) => l2Upright_any ao cap _ p w rfl h1 h6 w1' w6 HEV.out hc)
  have HV := Lib.hid (fun (ao : Option Addr) (cap : Nat) (w : World) (hc : CellsAt w ao ((transB p).map Value.string)) => l2Upright_any ao cap (wideB p) (transB p) w HTL.out (by rw [HTL.out]; exact w1') (by rw [HTL.out]; exact w6) (by rw [HTW.out]; exact h1) (by rw [HTW.out]; exact h6) HET.out hc)
  have HTR := Lib.hid (fun (w : World) (hc : CellsAt w ao (p.map Value.string)) => l1Trans_any ao cap _ p w rfl h1 (by omega) (by omega) HEV.out hc)
  rw [HTW.out] at HV
  unfold wallsL
  have HU3 := Lib.hid (upL_three (p := p) (k := wideB p))
  have HV3 := Lib.hid (upL_three (p := transB p) (k := p.length))
  have hUl : (upL p (wideB p)).length ≤ 36 := Nat.le_trans (upL_len p _) (Nat.mul_le_mul w6 h6)
  have hVl : (upL (transB p) p.length).length ≤ 36 := Nat.le_trans (upL_len _ _) (by rw [HTL.out]; exact Nat.mul_le_mul h6 w6)
  generalize upL p (wideB p) = U at *
  generalize upL (transB p) p.length = V at *
  clear h1 h6 w1' w6
  have HC := Lib.hid hc; clear hc
  go_enter Try.func138, Try.ntmps138
  go_wp2_with (go_at_call 140; refine (HU.out _ (HC.out.below (below_alloc _ _))).mono ?_; rintro e w1 ⟨uo, uc, rfl, hrow1, hb1⟩)
  obtain ⟨us, hus⟩ := hrow1
  have hR1 := (rowsOwn_made w).below hb1
  have hB1 : Below w.heap.size w w1 := (below_alloc w (.cells #[] 32)).trans (hb1.mono (by simp))
  have hs1 : w.heap.size + 1 ≤ w1.heap.size := by have := hb1.size; simp at this; omega
  have hus := hus.base (base' := w.heap.size + 1) (by simp)
  clear hb1
  go_loopw [3, 5] (fun vo vi wr => ∃ (i : Nat) (ro : Option Addr) (rc : Nat), i ≤ U.length ∧ vi = .int .i64 i ∧ vo = .slice ro (((U.take i).map fun l => 0 :: l)).length rc ∧ RowsOwn wr w.heap.size ro rc (((U.take i).map fun l => 0 :: l)) ∧
    w1.grownBy wr (some w.heap.size) ∧ (∀ a, ro = some a → a.block = w.heap.size ∨ w1.heap.size ≤ a.block) ∧ Below w.heap.size w wr) (fun _ vi _ => U.length - (intOf vi).toNat)
  case atStart => exact ⟨0, _, _, Nat.zero_le _, rfl, rfl, hR1, ⟨rfl, rfl, rfl, Nat.le_refl _, fun _ _ _ => rfl⟩, fun a ha => by cases ha; exact .inl rfl, hB1⟩
  case round =>
    obtain ⟨i, ro, rc, hi, rfl, rfl, hrow, hgr, hro, hB⟩ := hrel
    by_cases hlt : i < U.length
    · have hlt' : decide ((i : Int) < (U.length : Int)) = true := by rw [decide_eq_true_eq]; omega
      have h3 := HU3.out _ (getD_mem [] hlt)
      obtain ⟨bb, off, g, c, rfl, hcu, hcl, hbb1, hg1, hbb2, hg2⟩ := hus.row hlt (by rw [h3]; omega)
      have hcu' := hgr.cell hcu (by simp; omega)
      have hcl' := hcl.grown hgr (fun a ha => by cases ha; simp; omega)
      rw [h3] at hcu'
      have HTM := Lib.hid (take_map_snoc (f := fun l => 0 :: l) hlt)
      obtain ⟨l, hl⟩ : ∃ l, U.getD i [] = l := ⟨_, rfl⟩
      rw [hl] at HTM hcl' h3
      clear hcl hcu hl
      have hcuA := cell_below hcu' (below_alloc wr (.cells #[.int .i64 0] 3))
      clear hcu'
      obtain ⟨vs, hvs⟩ := hrow
      have hBl : (((U.take i).map fun l => 0 :: l)).length ≤ 80 := by simp; omega
      generalize hBQ : ((U.take i).map fun l => 0 :: l) = BQ at *
      have HBQ := Lib.hid hBQ; clear hBQ
      have h63 : BQ.length + 1 ≤ maxLen := by unfold maxLen; omega
      have h64 : (BQ.length + 1) * 24 ≤ 140737488355328 := by omega
      have hwr := hB.size
      have hlv : (l.map (Value.int .i64)).length = 3 * 1 := by rw [List.length_map, h3]
      have hone : ∀ v ∈ l.map (Value.int .i64), v.oneCell' = true := fun v hv => by rw [List.mem_map] at hv; obtain ⟨z, _, rfl⟩ := hv; rfl
      have hclA := hcl'.below (below_alloc wr (.cells #[.int .i64 0] 3))
      have hcells : ∀ j v, (l.map (Value.int .i64))[j]? = some v → (wr.alloc (.cells #[.int .i64 0] 3)).cell? ⟨g, 0 + j, none⟩ = some v := fun j v hj => by
        obtain ⟨b', o', he, hc'⟩ := hclA j v hj
        simp only [Option.some.injEq, Addr.mk.injEq, and_true] at he
        obtain ⟨rfl, rfl⟩ := he
        exact hc'
      have HCELLS := Lib.hid hcells
      clear hcells hclA
      go_wp2_with (first
        | (at_builtin; (refine wpList_pushK _ rfl _ _ 32 rfl wr.heap.size 3 im (.int .i64 0) 1 8 Try.underlying32 hmi hmz hm1 hm2 rfl (by decide) (some ⟨wr.heap.size, 0, none⟩) 1 1 _ rfl (owns_lit wr wr.heap.size 3 [.int .i64 0] (Nat.le_refl _) (by simp [maxLen])) (l.map (Value.int .i64)) 3 g 0 c rfl (by decide) hlv HCELLS.out hone (by simp [maxLen]) (by omega) (by simp) ?_); intro lo lc w7 hown7 hg7 hnew7; have hbB3 := below_of_grownBy' (below_alloc wr (.cells #[.int .i64 0] 3)) hg7 (fun a ha => by cases ha; exact Nat.le_refl _); have hs7 := hbB3.size)
        | (at_builtin; refine wpList_push _ rfl _ _ 90 rfl w.heap.size 32 ir (.slice none 0 0) 24 Try.underlying90 hri hrz hr1 hr2 rfl ro BQ.length rc vs rfl (ownsRow_below (ownsRow_below hvs.1 hbB3) (below_alloc _ _)) _ _ _ rfl (cell_new _ _ _) rfl h63 h64 (by simp; omega) ?_; intro ro2 rc2 w8 hown4 hg4 hnew4))
      have hlt2 := owns_lt hvs.1
      have hlo : ∀ a, lo = some a → wr.heap.size ≤ a.block := fun a ha => by
        rcases hnew7 a ha with h' | h'
        · cases h'; exact Nat.le_refl _
        · simp at h'; omega
      have hl4 : (0 :: l).length = 1 + 3 := by rw [List.length_cons, h3]
      have hvs2 := hvs.push (l := 0 :: l) (c := lc) (hbB3.trans ((below_alloc _ _).mono hs7)) (ownsRow_below (by rw [hl4]; exact ownsRow_base hown7 hwr) (below_alloc w7 _)) hlo (by rw [hl4]; exact hown4) hg4 hnew4
      have hg5 : w1.grownBy w8 (some w.heap.size) := grownBy_step hgr (grownBy_trans (grownBy_of_below (hbB3.trans ((below_alloc _ _).mono hs7)) _) hg4) (fun k hk => by
        obtain ⟨a, ha, rfl⟩ := ownBlock_is hk
        exact hro a ha)
      have hb5 := below_of_grownBy' (hB.trans ((hbB3.trans ((below_alloc _ _).mono hs7)).mono hwr)) hg4 (fun a ha => (hlt2 a ha).1)
      go_roundw
      case rel => exact ⟨i + 1, ro2, rc2, by omega, by go_num, by rw [HTM.out, List.length_append]; rfl, by rw [HTM.out]; exact ⟨_, hvs2⟩, hg5, (fun a ha => by
        rcases hnew4 a ha with h' | h'
        · exact hro a h'
        · right; have := hgr.size; simp at h'; omega), hb5⟩
      case measure => simp [intOf]; omega
    · obtain rfl : i = U.length := by omega
      have hlt' : decide ((U.length : Int) < (U.length : Int)) = false := by rw [decide_eq_false_iff_not]; omega
      rw [List.take_length] at hrow
      obtain ⟨vs, hvs⟩ := hrow
      obtain ⟨wA, rfl⟩ : ∃ wA, wA = wr := ⟨_, rfl⟩
      have hAs := hB.size
      obtain ⟨b0, hb0, hro0⟩ : ∃ b0, b0 < wA.heap.size ∧ ∀ a, ro = some a → a.block = b0 := by
        cases ro with
        | none => exact ⟨w.heap.size, by have := hgr.size; omega, fun a ha => by cases ha⟩
        | some a => exact ⟨a.block, (owns_lt hvs.1 a rfl).2, fun b hb => by cases hb; rfl⟩
      have hcA := HC.out.below hB
      clear hro hgr hR1 hB1
      have hUm : (U.map fun l => (0 : Int) :: l).length ≤ 36 := by rw [List.length_map]; exact hUl
      obtain ⟨UM, hUM⟩ : ∃ UM, (U.map fun l => (0 : Int) :: l) = UM := ⟨_, rfl⟩
      rw [hUM] at hvs hUm
      have HUM := Lib.hid hUM
      clear hUM
      go_wp2_with (first
        | (go_at_call 141; refine (HTR.out _ hcA).mono ?_; rintro e w2 ⟨to, tc, rfl, hown2, hb2⟩)
        | (go_at_call 140; refine (HV.out to tc _ (owns_cells hown2)).mono ?_; rintro e w3 ⟨vo, vc, rfl, hrow3, hb3⟩))
      obtain ⟨ys, hys⟩ := hrow3
      have hys := hys.base (base' := wA.heap.size) hb2.size
      have hvs3 := (hvs.below hb2).below hb3
      have hB3 := below_step hB hB.size (below_step hb2 hb2.size hb3)
      have hs3 := Nat.le_trans hb2.size hb3.size
      have HYS := Lib.hid hys
      clear hus hvs hB hb2 hb3 hcA hown2
      go_loopw [3, 7] (fun vo vi wr => ∃ (i : Nat) (ro : Option Addr) (rc : Nat), i ≤ V.length ∧ vi = .int .i64 i ∧ vo = .slice ro (UM ++ ((V.take i).map fun l => 1 :: l)).length rc ∧ RowsOwn wr w.heap.size ro rc (UM ++ ((V.take i).map fun l => 1 :: l)) ∧
        w3.grownBy wr (some b0) ∧ (∀ a, ro = some a → a.block = b0 ∨ w3.heap.size ≤ a.block) ∧ Below w.heap.size w wr) (fun _ vi _ => V.length - (intOf vi).toNat)
      case atStart => exact ⟨0, ro, rc, Nat.zero_le _, rfl, by rw [← HUM.out]; simp, by rw [List.take_zero, List.map_nil, List.append_nil]; exact ⟨_, hvs3⟩, ⟨rfl, rfl, rfl, Nat.le_refl _, fun _ _ _ => rfl⟩, fun a ha => .inl (hro0 a ha), hB3⟩
      case round =>
        obtain ⟨i, ro, rc, hi, rfl, rfl, hrow, hgr, hro, hB⟩ := hrel
        by_cases hlt : i < V.length
        · have hlt' : decide ((i : Int) < (V.length : Int)) = true := by rw [decide_eq_true_eq]; omega
          have h3 := HV3.out _ (getD_mem [] hlt)
          obtain ⟨bb, off, g, c, rfl, hcu, hcl, hbb1, hg1, hbb2, hg2⟩ := hys.row hlt (by rw [h3]; omega)
          have hcu' := hgr.cell hcu (by simp; omega)
          have hcl' := hcl.grown hgr (fun a ha => by cases ha; simp; omega)
          rw [h3] at hcu'
          have HTM := Lib.hid (take_map_snoc (f := fun l => 1 :: l) hlt)
          obtain ⟨l, hl⟩ : ∃ l, V.getD i [] = l := ⟨_, rfl⟩
          rw [hl] at HTM hcl' h3
          clear hcl hcu hl
          have hcuA := cell_below hcu' (below_alloc wr (.cells #[.int .i64 1] 3))
          clear hcu'
          obtain ⟨vs, hvs⟩ := hrow
          have hBl : (UM ++ ((V.take i).map fun l => 1 :: l)).length ≤ 80 := by simp; omega
          generalize hBQ : UM ++ ((V.take i).map fun l => 1 :: l) = BQ at *
          have HBQ := Lib.hid hBQ; clear hBQ
          have h63 : BQ.length + 1 ≤ maxLen := by unfold maxLen; omega
          have h64 : (BQ.length + 1) * 24 ≤ 140737488355328 := by omega
          have hwr := hB.size
          have hlv : (l.map (Value.int .i64)).length = 3 * 1 := by rw [List.length_map, h3]
          have hone : ∀ v ∈ l.map (Value.int .i64), v.oneCell' = true := fun v hv => by rw [List.mem_map] at hv; obtain ⟨z, _, rfl⟩ := hv; rfl
          have hclA := hcl'.below (below_alloc wr (.cells #[.int .i64 1] 3))
          have hcells : ∀ j v, (l.map (Value.int .i64))[j]? = some v → (wr.alloc (.cells #[.int .i64 1] 3)).cell? ⟨g, 0 + j, none⟩ = some v := fun j v hj => by
            obtain ⟨b', o', he, hc'⟩ := hclA j v hj
            simp only [Option.some.injEq, Addr.mk.injEq, and_true] at he
            obtain ⟨rfl, rfl⟩ := he
            exact hc'
          have HCELLS := Lib.hid hcells
          clear hcells hclA
          go_wp2_with (first
            | (at_builtin; (refine wpList_pushK _ rfl _ _ 32 rfl wr.heap.size 3 im (.int .i64 0) 1 8 Try.underlying32 hmi hmz hm1 hm2 rfl (by decide) (some ⟨wr.heap.size, 0, none⟩) 1 1 _ rfl (owns_lit wr wr.heap.size 3 [.int .i64 1] (Nat.le_refl _) (by simp [maxLen])) (l.map (Value.int .i64)) 3 g 0 c rfl (by decide) hlv HCELLS.out hone (by simp [maxLen]) (by omega) (by simp) ?_); intro lo lc w7 hown7 hg7 hnew7; have hbB3 := below_of_grownBy' (below_alloc wr (.cells #[.int .i64 1] 3)) hg7 (fun a ha => by cases ha; exact Nat.le_refl _); have hs7 := hbB3.size)
            | (at_builtin; refine wpList_push _ rfl _ _ 90 rfl w.heap.size 32 ir (.slice none 0 0) 24 Try.underlying90 hri hrz hr1 hr2 rfl ro BQ.length rc vs rfl (ownsRow_below (ownsRow_below hvs.1 hbB3) (below_alloc _ _)) _ _ _ rfl (cell_new _ _ _) rfl h63 h64 (by simp; omega) ?_; intro ro2 rc2 w8 hown4 hg4 hnew4))
          have hlt2 := owns_lt hvs.1
          have hlo : ∀ a, lo = some a → wr.heap.size ≤ a.block := fun a ha => by
            rcases hnew7 a ha with h' | h'
            · cases h'; exact Nat.le_refl _
            · simp at h'; omega
          have hl4 : (1 :: l).length = 1 + 3 := by rw [List.length_cons, h3]
          have hvs2 := hvs.push (l := 1 :: l) (c := lc) (hbB3.trans ((below_alloc _ _).mono hs7)) (ownsRow_below (by rw [hl4]; exact ownsRow_base hown7 hwr) (below_alloc w7 _)) hlo (by rw [hl4]; exact hown4) hg4 hnew4
          have hg5 : w3.grownBy w8 (some b0) := grownBy_step hgr (grownBy_trans (grownBy_of_below (hbB3.trans ((below_alloc _ _).mono hs7)) _) hg4) (fun k hk => by
            obtain ⟨a, ha, rfl⟩ := ownBlock_is hk
            exact hro a ha)
          have hb5 := below_of_grownBy' (hB.trans ((hbB3.trans ((below_alloc _ _).mono hs7)).mono hwr)) hg4 (fun a ha => (hlt2 a ha).1)
          go_roundw
          case rel => exact ⟨i + 1, ro2, rc2, by omega, by go_num, by rw [HTM.out, ← List.append_assoc, HBQ.out, List.length_append]; rfl, by rw [HTM.out, ← List.append_assoc, HBQ.out]; exact ⟨_, hvs2⟩, hg5, (fun a ha => by
            rcases hnew4 a ha with h' | h'
            · exact hro a h'
            · right; have := hgr.size; simp at h'; omega), hb5⟩
          case measure => simp [intOf]; omega
        · obtain rfl : i = V.length := by omega
          have hlt' : decide ((V.length : Int) < (V.length : Int)) = false := by rw [decide_eq_false_iff_not]; omega
          rw [List.take_length] at hrow
          rw [← HUM.out] at hrow
          go_wp2
          go_ret
          exact ⟨ro, rc, by rw [HUM.out, List.take_length]; rfl, hrow, hB⟩
theorem l2Walls_any (ao : Option Addr) (cap : Nat) (p : List ByteArray) (w : World) (hp : planB p = true) (hc : CellsAt w ao (p.map Value.string)) :
    Calls Try.prog 138 #[.slice ao p.length cap] w
      fun e w' => ∃ ro rc, e = .returned (.slice ro (wallsL p).length rc) ∧ RowsOwn w' w.heap.size ro rc (wallsL p) ∧ Below w.heap.size w w' :=
  have hg := (planP_of hp).grid
  l2WallsE_any ao cap p w hg.h1 hg.h6 hg.w1 hg.w6 hg.even hc

end Go.Proofs.Ytpgcpmfemcfoaaa
