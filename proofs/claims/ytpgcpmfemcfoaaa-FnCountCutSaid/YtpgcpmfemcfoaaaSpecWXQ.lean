/-
  Merged texts: SpecW WallK SpecX.
-/
import Derived.Test.YtpgcpmfemcfoaaaWallsQ
import Derived.Test.YtpgcpmfemcfoaaaNestsQ
import Derived.Test.YtpgcpmfemcfoaaaTurnsQ
import Derived.Test.YtpgcpmfemcfoaaaImplGHQ
import Derived.Deep.MidRow

/-
  The model's walls. (Walks.)
-/
namespace Go.Proofs.Ytpgcpmfemcfoaaa
open Go.RowKit

/-- two letters beside each other differ -/
def upB (p : List ByteArray) (k i : Nat) : Bool := decide (i < p.length) && decide (byteAt p i (k - 1) ≠ byteAt p i k)
def wlL (x : Wl) : List Int := [x.line, x.first, x.long]
/-- the model's walls between columns, of the lines ahead of one -/
def upL (p : List ByteArray) (k : Nat) : List (List Int) := (linesW 0 (upB p) p.length k).map wlL
def runL (k : Nat) (l : List (Nat × Nat)) : List (List Int) := l.map fun x => [(k : Int), x.1, x.2]

theorem upL_step (p : List ByteArray) (k : Nat) (h : 1 ≤ k) : upL p (k + 1) = upL p k ++ runL k (lineW (upB p k) p.length p.length) := by
  unfold upL runL; rw [linesW_succ h, List.map_append, List.map_map]; rfl
theorem upL_len (p : List ByteArray) (k : Nat) : (upL p k).length ≤ k * p.length := by
  unfold upL; rw [List.length_map]; exact linesW_len _ _ _ _
theorem runL_snoc (k : Nat) (l : List (Nat × Nat)) (s e : Nat) : runL k (l ++ [(s, e)]) = runL k l ++ [[(k : Int), s, e]] := by simp [runL]
theorem runL_len (k : Nat) (l : List (Nat × Nat)) : (runL k l).length = l.length := by simp [runL]

set_option maxRecDepth 100000 in
set_option maxHeartbeats 4000000 in
theorem l2Upright_any (ao : Option Addr) (cap n : Nat) (p : List ByteArray) (w : World) (hn : p.length = n) (h1 : 1 ≤ p.length) (hl : p.length ≤ 6) (w1 : 1 ≤ wideB p) (hw : wideB p ≤ 6) (he : Even p)
    (hc : CellsAt w ao (p.map Value.string)) :
    Calls Try.prog 140 #[.slice ao n cap] w
      fun e w' => ∃ ro rc, e = .returned (.slice ro (upL p (wideB p)).length rc) ∧ RowsOwn w' w.heap.size ro rc (upL p (wideB p)) ∧ Below w.heap.size w w' := by
  subst hn
  obtain ⟨ir, hri, hrz, hr1, hr2⟩ := info_parts Try.infoRow
  have HSZ := Lib.hid (show ∀ i, i < p.length → (p.getD i ByteArray.empty).size = wideB p from he)
  have HC := Lib.hid hc
  obtain ⟨b0, off0, ha0, hc0⟩ := hc.str 0 (by omega)
  subst ha0
  rw [Nat.add_zero] at hc0
  have hs0 : (p.getD 0 ByteArray.empty).size = wideB p := rfl
  generalize p.getD 0 ByteArray.empty = s0 at *
  have hp0 : 0 < p.length := h1
  clear hc he
  go_enter Try.func140, Try.ntmps140
  go_wp2
  have hW1 := below_alloc w (.cells #[] 32)
  have hR1 := rowsOwn_made w
  go_loopw [3, 4] (fun vo vk wr => ∃ (k : Nat) (ro : Option Addr) (rc : Nat), 1 ≤ k ∧ k ≤ wideB p ∧ vk = .int .i64 k ∧ vo = .slice ro (upL p k).length rc ∧ RowsOwn wr w.heap.size ro rc (upL p k) ∧ Below w.heap.size w wr) (fun _ k _ => wideB p - (intOf k).toNat)
  case atStart => exact ⟨1, _, _, Nat.le_refl _, w1, rfl, rfl, hR1, hW1⟩
  case round =>
    clear hR1 hW1
    obtain ⟨k, ro, rc, hk1, hk, rfl, rfl, hrow, hb⟩ := hrel
    have hc0r := cell_below hc0 hb
    by_cases hlt : k < wideB p
    · have hkm' : decide ((k : Int) < (wideB p : Int)) = true := by rw [decide_eq_true_eq]; omega
      have HST := Lib.hid (upL_step p k hk1)
      have HUL := Lib.hid (upL_len p k)
      have hkn : k * p.length ≤ 5 * 6 := Nat.mul_le_mul (by omega) hl
      have hAk : (upL p k).length ≤ 30 := by have := HUL.out; omega
      generalize hA : upL p k = A at *
      have HA := Lib.hid hA; clear hA
      go_wp2
      obtain ⟨f, hf⟩ : ∃ f, upB p k = f := ⟨_, rfl⟩
      rw [hf] at HST
      have HF := Lib.hid hf; clear hf
      go_loopw [3, 5, 6] (fun vo vf vi wm => ∃ (i : Nat) (ro : Option Addr) (rc : Nat), i ≤ p.length + 1 ∧ vi = .int .i64 i ∧ vf = .int .i64 (openW f i) ∧ vo = .slice ro (A ++ runL k (doneW f p.length i)).length rc ∧ RowsOwn wm w.heap.size ro rc (A ++ runL k (doneW f p.length i)) ∧ Below w.heap.size w wm) (fun _ _ vi _ => p.length + 1 - (intOf vi).toNat)
      case atStart => exact ⟨0, ro, rc, by omega, rfl, by rw [openW_zero], by rw [doneW_zero]; simp [runL], by rw [doneW_zero]; simpa [runL] using hrow, hb⟩
      case round =>
        clear hrow hb hc0r
        obtain ⟨i, ro, rc, hi, rfl, rfl, rfl, hrow, hb⟩ := hrel
        have hbs := hb.size
        have hbd := openW_bound f i
        have hdl := doneW_len f p.length i
        have hrl := runL_len k (doneW f p.length i)
        by_cases hin : i < p.length
        · obtain ⟨b2, off2, ha2, hc2⟩ := (HC.out.below hb).str i hin
          simp only [Option.some.injEq, Addr.mk.injEq, and_true] at ha2
          obtain ⟨rfl, rfl⟩ := ha2
          have hk1' : (k : Int) - 1 = ((k - 1 : Nat) : Int) := by omega
          have hcs : k < (p.getD i ByteArray.empty).size := by rw [HSZ.out i hin]; omega
          have hcs' : k - 1 < (p.getD i ByteArray.empty).size := by omega
          have hidx := at_list (p.getD i ByteArray.empty) k hcs
          have hidx' := at_list (p.getD i ByteArray.empty) (k - 1) hcs'
          have hfi0 : f i = decide (byteAt p i (k - 1) ≠ byteAt p i k) := by rw [← HF.out]; unfold upB; rw [decide_eq_true hin, Bool.true_and]
          have hil : decide ((i : Int) ≤ (p.length : Int)) = true := by rw [decide_eq_true_eq]; omega
          have hil2 : decide ((i : Int) < (p.length : Int)) = true := by rw [decide_eq_true_eq]; omega
          unfold byteAt at hfi0
          generalize (p.getD i ByteArray.empty).data.toList.getD k 0 = c at *
          generalize (p.getD i ByteArray.empty).data.toList.getD (k - 1) 0 = d at *
          generalize p.getD i ByteArray.empty = s1 at *
          by_cases hcd : d = c
          · have hne : ((d.toNat : Int) != (c.toNat : Int)) = false := by rw [hcd]; simp
            have hfi : f i = false := by rw [hfi0]; simp [hcd]
            have HCD := Lib.hid hcd; clear hcd hfi0
            by_cases ho : openW f i < 0
            · have ho1 : decide (openW f i < 0) = true := decide_eq_true ho
              have ho2 : decide (0 ≤ openW f i) = false := by rw [decide_eq_false_iff_not]; omega
              obtain ⟨e1, e2⟩ := scan_none (n := p.length) hfi ho
              have HE1 := Lib.hid e1; have HE2 := Lib.hid e2; clear e1 e2
              have hBl : (A ++ runL k (doneW f p.length i)).length ≤ 40 := by rw [List.length_append]; omega
              clear hdl hrl
              generalize hBQ : A ++ runL k (doneW f p.length i) = BQ at *
              have HBQ := Lib.hid hBQ; clear hBQ
              clear ho hbd
              go_wp2
              go_quiet (fail)
              go_wp2
              go_roundw
              case rel => exact ⟨i + 1, ro, rc, by omega, by go_num, by rw [HE1.out], by rw [HE2.out, HBQ.out], by rw [HE2.out, HBQ.out]; exact hrow.below (below_drewN _ _ _), hb.trans (below_drewN _ _ _)⟩
              case measure => simp [intOf]; omega
            · have ho1 : decide (openW f i < 0) = false := decide_eq_false ho
              have ho2 : decide (0 ≤ openW f i) = true := by rw [decide_eq_true_eq]; omega
              obtain ⟨e1, s, hs, e3, e2⟩ := scan_end (n := p.length) hfi (by omega) ho
              have HE1 := Lib.hid e1; have HE2 := Lib.hid e2; clear e1 e2
              have his : (i : Int) - (s : Int) = ((i - s : Nat) : Int) := by omega
              rw [e3] at ho1 ho2 ⊢
              clear e3 ho hbd
              have HSN := Lib.hid (runL_snoc k (doneW f p.length i) s (i - s))
              obtain ⟨us, hus⟩ := hrow
              have hBl : (A ++ runL k (doneW f p.length i)).length ≤ 40 := by rw [List.length_append]; omega
              clear hdl hrl
              generalize hBQ : A ++ runL k (doneW f p.length i) = BQ at *
              have HBQ := Lib.hid hBQ; clear hBQ
              have h63 : BQ.length + 1 ≤ maxLen := by unfold maxLen; omega
              have h64 : (BQ.length + 1) * 24 ≤ 140737488355328 := by omega
              go_wp2
              go_quiet (fail)
              have hus1 := hus.below (below_drewN wr.heap.size wr nq)
              go_wp2_with (at_builtin; go_loud (refine wpList_push _ rfl _ _ 90 rfl w.heap.size 32 ir (.slice none 0 0) 24 Try.underlying90 hri hrz hr1 hr2 rfl ro BQ.length rc us rfl (ownsRow_below (ownsRow_below hus1.1 (below_alloc _ _)) (below_alloc _ _)) (.slice (some ⟨wr.heap.size, 0, none⟩) 3 3) _ _ rfl (cell_new2 (wr.drewN nq) _ _ _) rfl h63 h64 (by simp; omega) ?_); intro ro2 rc2 w2 hown2 hg2 hnew2)
              have hlt2 := owns_lt hus.1
              have hus2 := hus1.push (l := [(k : Int), s, (i - s : Nat)]) ((below_alloc (wr.drewN nq) (.cells #[.int .i64 k, .int .i64 s, .int .i64 (i - s : Nat)] 3)).trans ((below_alloc _ _).mono (by simp))) (ownsRow_below (owns_lit (wr.drewN nq) w.heap.size 3 [.int .i64 k, .int .i64 s, .int .i64 (i - s : Nat)] hbs (by simp [maxLen])) (below_alloc _ _)) (fun a ha => by cases ha; simp) hown2 hg2 hnew2
              have hb2 := below_of_grownBy' (((hb.trans (below_drewN _ _ nq)).trans ((below_alloc _ (.cells #[.int .i64 k, .int .i64 s, .int .i64 (i - s : Nat)] 3)).mono (by simp; omega))).trans ((below_alloc _ _).mono (by simp; omega))) hg2 (fun a ha => (hlt2 a ha).1)
              go_roundw
              case rel => exact ⟨i + 1, ro2, rc2, by omega, by go_num, by rw [HE1.out], by rw [HE2.out, HSN.out, ← List.append_assoc, HBQ.out, List.length_append]; rfl, by rw [HE2.out, HSN.out, ← List.append_assoc, HBQ.out]; exact ⟨_, hus2⟩, hb2⟩
              case measure => simp [intOf]; omega
          · have hne : ((d.toNat : Int) != (c.toNat : Int)) = true := by
              rw [bne_iff_ne]; intro h'; exact hcd (UInt8.toNat_inj.1 (by omega))
            have hfi : f i = true := by rw [hfi0]; simp [hcd]
            have HCD := Lib.hid hcd; clear hcd hfi0
            by_cases ho : openW f i < 0
            · have ho1 : decide (openW f i < 0) = true := decide_eq_true ho
              have ho2 : decide (0 ≤ openW f i) = false := by rw [decide_eq_false_iff_not]; omega
              obtain ⟨e1, e2⟩ := scan_begin (n := p.length) hfi ho
              have HE1 := Lib.hid e1; have HE2 := Lib.hid e2; clear e1 e2
              have hBl : (A ++ runL k (doneW f p.length i)).length ≤ 40 := by rw [List.length_append]; omega
              clear hdl hrl
              generalize hBQ : A ++ runL k (doneW f p.length i) = BQ at *
              have HBQ := Lib.hid hBQ; clear hBQ
              clear ho hbd
              go_wp2
              go_quiet (fail)
              go_wp2
              go_roundw
              case rel => exact ⟨i + 1, ro, rc, by omega, by go_num, by rw [HE1.out], by rw [HE2.out, HBQ.out], by rw [HE2.out, HBQ.out]; exact hrow.below (below_drewN _ _ _), hb.trans (below_drewN _ _ _)⟩
              case measure => simp [intOf]; omega
            · have ho1 : decide (openW f i < 0) = false := decide_eq_false ho
              have ho2 : decide (0 ≤ openW f i) = true := by rw [decide_eq_true_eq]; omega
              obtain ⟨e1, e2⟩ := scan_on (n := p.length) hfi ho
              have HE1 := Lib.hid e1; have HE2 := Lib.hid e2; clear e1 e2
              have hBl : (A ++ runL k (doneW f p.length i)).length ≤ 40 := by rw [List.length_append]; omega
              clear hdl hrl
              generalize hBQ : A ++ runL k (doneW f p.length i) = BQ at *
              have HBQ := Lib.hid hBQ; clear hBQ
              clear ho hbd
              go_wp2
              go_quiet (fail)
              go_wp2
              go_roundw
              case rel => exact ⟨i + 1, ro, rc, by omega, by go_num, by rw [HE1.out], by rw [HE2.out, HBQ.out], by rw [HE2.out, HBQ.out]; exact hrow.below (below_drewN _ _ _), hb.trans (below_drewN _ _ _)⟩
              case measure => simp [intOf]; omega
        · by_cases hie : i = p.length
          · have hfi : f i = false := by rw [← HF.out, hie]; unfold upB; rw [decide_eq_false (by omega)]; rfl
            have hil : decide ((i : Int) ≤ (p.length : Int)) = true := by rw [decide_eq_true_eq]; omega
            have hil2 : decide ((i : Int) < (p.length : Int)) = false := by rw [decide_eq_false_iff_not]; omega
            have hle' : i ≤ p.length := by omega
            have HIE := Lib.hid hie; clear hie
            by_cases ho : openW f i < 0
            · have ho1 : decide (openW f i < 0) = true := decide_eq_true ho
              have ho2 : decide (0 ≤ openW f i) = false := by rw [decide_eq_false_iff_not]; omega
              obtain ⟨e1, e2⟩ := scan_none (n := p.length) hfi ho
              have HE1 := Lib.hid e1; have HE2 := Lib.hid e2; clear e1 e2
              have hBl : (A ++ runL k (doneW f p.length i)).length ≤ 40 := by rw [List.length_append]; omega
              clear hdl hrl
              generalize hBQ : A ++ runL k (doneW f p.length i) = BQ at *
              have HBQ := Lib.hid hBQ; clear hBQ
              clear ho hbd
              go_wp2
              go_quiet (fail)
              go_wp2
              go_roundw
              case rel => exact ⟨i + 1, ro, rc, by omega, by go_num, by rw [HE1.out], by rw [HE2.out, HBQ.out], by rw [HE2.out, HBQ.out]; exact hrow.below (below_drewN _ _ _), hb.trans (below_drewN _ _ _)⟩
              case measure => simp [intOf]; omega
            · have ho1 : decide (openW f i < 0) = false := decide_eq_false ho
              have ho2 : decide (0 ≤ openW f i) = true := by rw [decide_eq_true_eq]; omega
              obtain ⟨e1, s, hs, e3, e2⟩ := scan_end (n := p.length) hfi (by omega) ho
              have HE1 := Lib.hid e1; have HE2 := Lib.hid e2; clear e1 e2
              have his : (i : Int) - (s : Int) = ((i - s : Nat) : Int) := by omega
              rw [e3] at ho1 ho2 ⊢
              clear e3 ho hbd
              have HSN := Lib.hid (runL_snoc k (doneW f p.length i) s (i - s))
              obtain ⟨us, hus⟩ := hrow
              have hBl : (A ++ runL k (doneW f p.length i)).length ≤ 40 := by rw [List.length_append]; omega
              clear hdl hrl
              generalize hBQ : A ++ runL k (doneW f p.length i) = BQ at *
              have HBQ := Lib.hid hBQ; clear hBQ
              have h63 : BQ.length + 1 ≤ maxLen := by unfold maxLen; omega
              have h64 : (BQ.length + 1) * 24 ≤ 140737488355328 := by omega
              go_wp2
              go_quiet (fail)
              have hus1 := hus.below (below_drewN wr.heap.size wr nq)
              go_wp2_with (at_builtin; go_loud (refine wpList_push _ rfl _ _ 90 rfl w.heap.size 32 ir (.slice none 0 0) 24 Try.underlying90 hri hrz hr1 hr2 rfl ro BQ.length rc us rfl (ownsRow_below (ownsRow_below hus1.1 (below_alloc _ _)) (below_alloc _ _)) (.slice (some ⟨wr.heap.size, 0, none⟩) 3 3) _ _ rfl (cell_new2 (wr.drewN nq) _ _ _) rfl h63 h64 (by simp; omega) ?_); intro ro2 rc2 w2 hown2 hg2 hnew2)
              have hlt2 := owns_lt hus.1
              have hus2 := hus1.push (l := [(k : Int), s, (i - s : Nat)]) ((below_alloc (wr.drewN nq) (.cells #[.int .i64 k, .int .i64 s, .int .i64 (i - s : Nat)] 3)).trans ((below_alloc _ _).mono (by simp))) (ownsRow_below (owns_lit (wr.drewN nq) w.heap.size 3 [.int .i64 k, .int .i64 s, .int .i64 (i - s : Nat)] hbs (by simp [maxLen])) (below_alloc _ _)) (fun a ha => by cases ha; simp) hown2 hg2 hnew2
              have hb2 := below_of_grownBy' (((hb.trans (below_drewN _ _ nq)).trans ((below_alloc _ (.cells #[.int .i64 k, .int .i64 s, .int .i64 (i - s : Nat)] 3)).mono (by simp; omega))).trans ((below_alloc _ _).mono (by simp; omega))) hg2 (fun a ha => (hlt2 a ha).1)
              go_roundw
              case rel => exact ⟨i + 1, ro2, rc2, by omega, by go_num, by rw [HE1.out], by rw [HE2.out, HSN.out, ← List.append_assoc, HBQ.out, List.length_append]; rfl, by rw [HE2.out, HSN.out, ← List.append_assoc, HBQ.out]; exact ⟨_, hus2⟩, hb2⟩
              case measure => simp [intOf]; omega
          · obtain rfl : i = p.length + 1 := by omega
            have hil : decide (((p.length + 1 : Nat) : Int) ≤ (p.length : Int)) = false := by rw [decide_eq_false_iff_not]; omega
            have hfi : f p.length = false := by rw [← HF.out]; unfold upB; rw [decide_eq_false (by omega)]; rfl
            have hfin : A ++ runL k (doneW f p.length (p.length + 1)) = upL p (k + 1) := by rw [scan_all hfi, HST.out]
            have HFIN := Lib.hid hfin; clear hfin hfi hbd hdl hrl
            generalize A ++ runL k (doneW f p.length (p.length + 1)) = BQ at *
            go_wp2
            go_roundw
            case rel => exact ⟨k + 1, ro, rc, by omega, by omega, by go_num, by rw [HFIN.out], by rw [← HFIN.out]; exact hrow, hb⟩
            case measure => simp [intOf]; omega
    · obtain rfl : k = wideB p := by omega
      have hkm' : decide ((wideB p : Int) < (wideB p : Int)) = false := by rw [decide_eq_false_iff_not]; omega
      go_wp2
      go_ret
      exact ⟨ro, rc, rfl, hrow, hb⟩

end Go.Proofs.Ytpgcpmfemcfoaaa

/-
  The number of walls: the model's answer and the program's. (Walks, and the mathematics of it.)
-/
namespace Go.Proofs.Ytpgcpmfemcfoaaa
open Go.RowKit

/-! # what a list is read as -/

/-! # the model's letters and the program's rooms -/

theorem ofNat_ne {a b : Nat} (ha : a < 26) (hb : b < 26) : (UInt8.ofNat (97 + a) ≠ UInt8.ofNat (97 + b)) ↔ a ≠ b := by
  constructor
  · intro h e; exact h (by rw [e])
  · intro h e
    apply h
    have := congrArg UInt8.toNat e
    rw [UInt8.toNat_ofNat', UInt8.toNat_ofNat'] at this
    omega
theorem PlanP.differ {p : List ByteArray} (hp : PlanP p) {i j i' j' : Nat} (hi : i < p.length) (hj : j < wideB p) (hi' : i' < p.length) (hj' : j' < wideB p) :
    (byteAt p i j ≠ byteAt p i' j') ↔ gridG p i j ≠ gridG p i' j' := by
  rw [hp.grid.letter hi hj, hp.grid.letter hi' hj', ofNat_ne (markN_lt p i j) (markN_lt p i' j'), hp.mark i j hi hj, hp.mark i' j' hi' hj']

theorem trans_byte {p : List ByteArray} {k i : Nat} (hk : k < wideB p) (hi : i < p.length) : byteAt (transB p) k i = byteAt p i k := byteAt_mat hk hi
theorem trans_len (p : List ByteArray) : (transB p).length = wideB p := matB_len _ _ _
theorem trans_wide {p : List ByteArray} (h : 1 ≤ wideB p) : wideB (transB p) = p.length := matB_wide h
theorem trans_even {p : List ByteArray} (h : 1 ≤ wideB p) : Even (transB p) := matB_even h

/-! # how many there are -/

/-! ### the program's walls, read one by one -/

end Go.Proofs.Ytpgcpmfemcfoaaa

/-
  The model's walls, all of them in order. (Walks.)
-/
namespace Go.Proofs.Ytpgcpmfemcfoaaa
open Go.RowKit

def wlN (x : Wl) : List Int := [x.way, x.line, x.first, x.long]
theorem upL_three {p : List ByteArray} {k : Nat} : ∀ l ∈ upL p k, l.length = 3 := fun l hl => by
  unfold upL at hl; rw [List.mem_map] at hl; obtain ⟨x, _, rfl⟩ := hl; rfl

end Go.Proofs.Ytpgcpmfemcfoaaa
