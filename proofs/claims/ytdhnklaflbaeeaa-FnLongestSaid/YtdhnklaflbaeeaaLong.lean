
/-
  Merged texts: LongA LongB.
-/
import Derived.Test.YtdhnklaflbaeeaaSpecX
import Derived.Test.YtdhnklaflbaeeaaArr

/-
  The longest wall: comparing, searching. (Walks, and the mathematics of it.)
-/
namespace Go.Proofs.Ytdhnklaflbaeeaa
open Go.RowKit

def cmpI (a b : Int) : Int := if a < b then -1 else if b < a then 1 else 0
theorem cmpI_pos {a b : Int} : (0 < cmpI a b) ↔ b < a := by
  unfold cmpI; split
  · omega
  · split <;> omega

set_option maxHeartbeats 400000 in
theorem isNaN_any (a : Int) (w : World) : Calls Try.prog 154 #[.int .i64 a] w fun e w' => e = .returned (.bool false) ∧ w' = w := by
  have hn : (a != a) = false := by simp
  go_enter Try.func154, Try.ntmps154
  go_wp2
  go_ret
  exact ⟨rfl, rfl⟩

set_option maxHeartbeats 400000 in
theorem compare_any (a b : Int) (w : World) : Calls Try.prog 124 #[.int .i64 a, .int .i64 b] w fun e w' => e = .returned (.int .i64 (cmpI a b)) ∧ w' = w := by
  by_cases h1 : a < b
  · have HC := Lib.hid (show cmpI a b = -1 from if_pos h1)
    go_enter Try.func124, Try.ntmps124
    go_wp2_with (go_at_call 154; refine (isNaN_any _ _).mono ?_; rintro e w1 ⟨rfl, rfl⟩)
    go_ret
    exact ⟨ret_int HC.out.symm, rfl⟩
  · by_cases h2 : b < a
    · have HC := Lib.hid (show cmpI a b = 1 by unfold cmpI; rw [if_neg h1, if_pos h2])
      go_enter Try.func124, Try.ntmps124
      go_wp2_with (go_at_call 154; refine (isNaN_any _ _).mono ?_; rintro e w1 ⟨rfl, rfl⟩)
      go_ret
      exact ⟨ret_int HC.out.symm, rfl⟩
    · have HC := Lib.hid (show cmpI a b = 0 by unfold cmpI; rw [if_neg h1, if_neg h2])
      go_enter Try.func124, Try.ntmps124
      go_wp2_with (go_at_call 154; refine (isNaN_any _ _).mono ?_; rintro e w1 ⟨rfl, rfl⟩)
      go_ret
      exact ⟨ret_int HC.out.symm, rfl⟩

set_option maxHeartbeats 400000 in
theorem longer_any (X Y : Wl) (w : World) : Calls Try.prog 123 #[.agg (wlC X), .agg (wlC Y)] w fun e w' => e = .returned (.int .i64 (cmpI X.long Y.long)) ∧ Below w.heap.size w w' := by
  have HX := Lib.hid (HeldB.new w 99 (wlC X))
  have hx3 : ((w.alloc (.cells (wlC X) 99)).alloc (.cells (wlC Y) 99)).cell? ⟨w.heap.size, 3, none⟩ = some (.int .i64 (X.long : Nat)) := (HX.out.alloc _).cell 3
  have hy3 : ((w.alloc (.cells (wlC X) 99)).alloc (.cells (wlC Y) 99)).cell? ⟨w.heap.size + 1, 3, none⟩ = some (.int .i64 (Y.long : Nat)) := by
    have := (HeldB.new (w.alloc (.cells (wlC X) 99)) 99 (wlC Y)).cell 3
    rwa [World.size_alloc] at this
  have x3 : (wlC X)[3]? = some (.int .i64 (X.long : Nat)) := rfl
  have y3 : (wlC Y)[3]? = some (.int .i64 (Y.long : Nat)) := rfl
  go_enter Try.func123, Try.ntmps123
  go_wp2_with (go_at_call 124; refine (compare_any _ _ _).mono ?_; rintro e w1 ⟨rfl, rfl⟩)
  go_ret
  exact ⟨rfl, (below_alloc _ _).trans ((below_alloc _ _).mono (by simp))⟩

/-- the place of the first of the longest walls among the first of a list -/
def lngAt (L : List Wl) : Nat → Nat
  | 0 => 0
  | i + 1 => if (L.getD (lngAt L i) zeroWl).long < (L.getD i zeroWl).long then i else lngAt L i

theorem lngAt_lt (L : List Wl) : ∀ i, 0 < i → lngAt L i < i
  | 0, h => by omega
  | i + 1, _ => by
    unfold lngAt
    split
    · omega
    · rcases Nat.eq_zero_or_pos i with rfl | h
      · exact Nat.lt_succ_of_le (Nat.le_refl 0)
      · have := lngAt_lt L i h; omega
theorem lngAt_one (L : List Wl) : lngAt L 1 = 0 := by
  unfold lngAt; unfold lngAt; rw [if_neg (by omega)]
theorem lngAt_yes {L : List Wl} {i : Nat} (h : (L.getD (lngAt L i) zeroWl).long < (L.getD i zeroWl).long) : lngAt L (i + 1) = i := if_pos h
theorem lngAt_no {L : List Wl} {i : Nat} (h : ¬ (L.getD (lngAt L i) zeroWl).long < (L.getD i zeroWl).long) : lngAt L (i + 1) = lngAt L i := if_neg h
/-- those ahead of it are shorter -/
theorem lngAt_first (L : List Wl) : ∀ i j, j < lngAt L i → (L.getD j zeroWl).long < (L.getD (lngAt L i) zeroWl).long
  | 0, j, h => by unfold lngAt at h; omega
  | i + 1, j, h => by
    have hall : ∀ i j, j < i → (L.getD j zeroWl).long ≤ (L.getD (lngAt L i) zeroWl).long := by
      intro i
      induction i with
      | zero => intro j h; omega
      | succ i ih =>
        intro j hj
        by_cases hc : (L.getD (lngAt L i) zeroWl).long < (L.getD i zeroWl).long
        · rw [lngAt_yes hc]
          rcases Nat.lt_or_ge j i with h' | h'
          · have := ih j h'; omega
          · obtain rfl : j = i := by omega
            exact Nat.le_refl _
        · rw [lngAt_no hc]
          rcases Nat.lt_or_ge j i with h' | h'
          · exact ih j h'
          · obtain rfl : j = i := by omega
            omega
    by_cases hc : (L.getD (lngAt L i) zeroWl).long < (L.getD i zeroWl).long
    · rw [lngAt_yes hc] at h ⊢
      have := hall i j h; omega
    · rw [lngAt_no hc] at h ⊢
      exact lngAt_first L i j h

theorem range_below {w w' : World} {b o : Nat} {cs : List Value} (h : w.rangeAt b o cs) (hb : Below w.heap.size w w') : w'.rangeAt b o cs := fun j v hv => cell_below (h j v hv) hb

theorem HeldB.range {W : World} {B : Nat} {t : TypeId} {C : Array Value} (h : HeldB W B t C) : W.rangeAt B 0 C.toList := fun j v hv => by
  rw [Nat.zero_add, h.cell j, ← hv]; simp
theorem range_regrown {w : World} {b o : Nat} {cs : List Value} (h : w.rangeAt b o cs) : ∀ w', (∃ p : Regrown, w' = Sort.grow (redrawn w p.d) p.os) → w'.rangeAt b o cs := by
  rintro _ ⟨r, rfl⟩
  exact range_below h (below_regrown w r.d r.os)

set_option maxRecDepth 100000 in
set_option maxHeartbeats 2000000 in
theorem maxFunc_any (ro : Option Addr) (rc : Nat) (L : List Wl) (w : World) (h0 : 0 < L.length) (hl : L.length ≤ 1000) (hc : CellsAt w ro (wlsC L)) :
    Calls Try.prog 122 #[.slice ro L.length rc, .func (.func 123) #[] #[]] w
      fun e w' => e = .returned (.agg (wlC (L.getD (lngAt L L.length) zeroWl))) ∧ Below w.heap.size w w' := by
  obtain ⟨b, off, rfl, hr0⟩ := wls_range hc h0
  have eg := enters_of Try.func123 (by kernel_rfl) rfl
  have hlt : decide ((L.length : Int) < 1) = false := by rw [decide_eq_false_iff_not]; omega
  have HC := Lib.hid hc
  rw [Nat.zero_mul, Nat.add_zero] at hr0
  have hr1 := range_below hr0 (below_alloc w (.cells #[.int .i64 0, .int .i64 0, .int .i64 0, .int .i64 0] 99))
  have HR1 := Lib.hid hr1
  have HX0 := Lib.hid (show L.getD (lngAt L 1) zeroWl = L.getD 0 zeroWl by rw [lngAt_one])
  clear hr0 hr1 hc
  generalize hx0 : L.getD 0 zeroWl = X0 at *
  clear hx0
  go_enter Try.func122, Try.ntmps122
  have bM0 : HeldB ((w.alloc (.cells #[.int .i64 0, .int .i64 0, .int .i64 0, .int .i64 0] 99)).alloc (.cells #[.int .i64 0, .int .i64 0, .int .i64 0, .int .i64 0] 99)) (w.heap.size + 1) 99 (wlC zeroWl) := by
    have := HeldB.new (w.alloc (.cells #[.int .i64 0, .int .i64 0, .int .i64 0, .int .i64 0] 99)) 99 (wlC zeroWl)
    rwa [World.size_alloc] at this
  have bR0 : HeldB ((w.alloc (.cells #[.int .i64 0, .int .i64 0, .int .i64 0, .int .i64 0] 99)).alloc (.cells #[.int .i64 0, .int .i64 0, .int .i64 0, .int .i64 0] 99)) w.heap.size 99 (wlC zeroWl) := (HeldB.new w 99 (wlC zeroWl)).alloc _
  have hB0 : Below w.heap.size w ((w.alloc (.cells #[.int .i64 0, .int .i64 0, .int .i64 0, .int .i64 0] 99)).alloc (.cells #[.int .i64 0, .int .i64 0, .int .i64 0, .int .i64 0] 99)) := (below_alloc _ _).trans ((below_alloc _ _).mono (by simp))
  go_wp2_with (first
    | (refine wpList_load_wl rfl 99 _ rfl b off rfl X0 _ HR1.out Try.underlying99 rfl Try.sizeWl ?_)
    | (refine wpList_store_row rfl 99 _ _ rfl (w.heap.size + 1) (wlC X0) rfl rfl 99 (wlC zeroWl) bM0 (wl_size _) rfl (wlC_one _) ?_))
  have bM1 := bM0.setRow (wlC X0)
  have bR1 := bR0.otherRow (B' := w.heap.size + 1) (by omega) (wlC X0)
  have hB1 := below_setRowB hB0 (g := w.heap.size + 1) (by omega) (wlC X0)
  go_loopw [6] (fun vi wr => ∃ i : Nat, 1 ≤ i ∧ i ≤ L.length ∧ vi = .int .i64 i ∧ HeldB wr (w.heap.size + 1) 99 (wlC (L.getD (lngAt L i) zeroWl)) ∧ HeldB wr w.heap.size 99 (wlC zeroWl) ∧ Below w.heap.size w wr) (fun vi _ => L.length - (intOf vi).toNat)
  case atStart => exact ⟨1, Nat.le_refl _, h0, rfl, by rw [HX0.out]; exact bM1, bR1, hB1⟩
  case round =>
    clear bM0 bR0 hB0 bM1 bR1 hB1
    obtain ⟨i, hi1, hi, rfl, bM, bR, hB⟩ := hrel
    by_cases hlt2 : i < L.length
    · have hlt' : decide ((i : Int) < (L.length : Int)) = true := by rw [decide_eq_true_eq]; omega
      obtain ⟨b2, off2, he2, hrg⟩ := wls_range (HC.out.below hB) hlt2
      simp only [Option.some.injEq, Addr.mk.injEq, and_true] at he2
      obtain ⟨rfl, rfl⟩ := he2
      have HYES := Lib.hid (@lngAt_yes L i)
      have HNO := Lib.hid (@lngAt_no L i)
      generalize hX : L.getD i zeroWl = X at *
      have HX := Lib.hid hX; clear hX
      generalize hM : L.getD (lngAt L i) zeroWl = M at *
      have HM := Lib.hid hM; clear hM
      have HCL := Lib.hid (fun (d : Nat) (os : Array Obj) => Calls.regrown_of (longer_any X M (Sort.grow (redrawn wr d) os)))
      have HRX := Lib.hid (range_regrown hrg)
      have HRM := Lib.hid (range_regrown bM.range)
      have hgt : decide (0 < cmpI (X.long : Nat) (M.long : Nat)) = decide (M.long < X.long) := decide_eq_decide.2 (by rw [cmpI_pos]; omega)
      go_wp2
      refine wp_region_quiet_below (by kernel_rfl) (by kernel_rfl) ?_
      repeat (first | go_big_quiet_step (fail))
      refine wpQuiet_load_mid (by rfl) 99 _ rfl b (off + i * 4) (by rfl) (wlC X).toList (wlC X) rfl _ HRX.out Try.underlying99 rfl Try.sizeWl ?_
      go_simp
      refine wpQuiet_load_mid (by rfl) 99 _ rfl (w.heap.size + 1) 0 (by rfl) (wlC M).toList (wlC M) rfl _ HRM.out Try.underlying99 rfl Try.sizeWl ?_
      go_simp
      repeat (first | go_big_quiet_step (with_reducible exact HCL.out _ _) | quiet_step (with_reducible exact HCL.out _ _))
      refine wpQuiet_nil ?_
      intro r
      have hb7 := below_regrown wr r.d r.os
      generalize Sort.grow (redrawn wr r.d) r.os = W7 at *
      have bM7 := bM.below hb7
      have bR7 := bR.below hb7
      have hB7 := below_step hB hB.size hb7
      have hrg7 := range_below hrg hb7
      by_cases hx : M.long < X.long
      · go_wp2_with (first
          | (refine wpList_load_wl rfl 99 _ rfl b (off + i * 4) rfl X _ hrg7 Try.underlying99 rfl Try.sizeWl ?_)
          | (refine wpList_store_row rfl 99 _ _ rfl (w.heap.size + 1) (wlC X) rfl rfl 99 (wlC M) bM7 (wl_size _) rfl (wlC_one _) ?_))
        go_roundw
        case rel => exact ⟨i + 1, by omega, by omega, by go_num, by rw [HYES.out hx, HX.out]; exact bM7.setRow _, bR7.otherRow (by omega) _, below_setRowB hB7 (by omega) _⟩
        case measure => simp [intOf]; omega
      · go_wp2
        go_roundw
        case rel => exact ⟨i + 1, by omega, by omega, by go_num, by rw [HNO.out hx, HM.out]; exact bM7, bR7, hB7⟩
        case measure => simp [intOf]; omega
    · obtain rfl : i = L.length := by omega
      have hlt' : decide ((L.length : Int) < (L.length : Int)) = false := by rw [decide_eq_false_iff_not]; omega
      go_wp2_with (first
        | (refine wpList_load_row rfl 99 _ rfl (w.heap.size + 1) rfl 99 _ (0, 0) _ bM Try.underlying99 rfl (wl_size _) ?_)
        | (refine wpList_store_row rfl 99 _ _ rfl w.heap.size (wlC (L.getD (lngAt L L.length) zeroWl)) rfl rfl 99 (wlC zeroWl) bR (wl_size _) rfl (wlC_one _) ?_))
      refine bodyPost_ret (v := .agg (wlC (L.getD (lngAt L L.length) zeroWl))) (results_cell_row Try.results122 _ _ w.heap.size 99 (wlC (L.getD (lngAt L L.length) zeroWl)) (0, 0) _ rfl (bR.setRow _) Try.underlying99 rfl (wl_size _)) rfl ⟨rfl, ?_⟩
      exact below_setRowB hB (Nat.le_refl _) _

theorem run_eql_wl (x y : Wl) (w : World) : (binOp .eql 99 (.agg (wlC x)) (.agg (wlC y))).run Try.prog w = .ok (.bool (!neW x y)) w := by
  have u3 := Try.underlying3
  have a3 := Try.isAgg3
  have z3 := Try.sizeOf3
  have hS : Try.prog.underlying 99 = some (.struct (Try.prog.fieldsOf 99)) := by kernel_rfl
  have hp : Try.prog.stoodInHeld 99 = false := by kernel_rfl
  have h : (Op.equalIn 10000 99 (.agg (wlC x)) (.agg (wlC y))).run Try.prog w = .ok (!neW x y) w := by
    rw [show (10000 : Nat) = 9999 + 1 from rfl, run_equalIn_agg w 9999 99 _ _ hS hp]
    simp only [Program.fieldsOf, Try.underlying99, wlC]
    go_simp
    unfold neW
    by_cases h1 : x.way = y.way <;> by_cases h2 : x.line = y.line <;> by_cases h3 : x.first = y.first <;> by_cases h4 : x.long = y.long <;> simp [h1, h2, h3, h4] <;> omega
  simp only [binOp]
  simp [Op.equal, Op.maxDepth, h]

set_option maxRecDepth 100000 in
set_option maxHeartbeats 2000000 in
theorem indexOf_any (ro : Option Addr) (rc : Nat) (L : List Wl) (X : Wl) (k : Nat) (w : World) (hk : k < L.length) (hX : L.getD k zeroWl = X) (hno : ∀ j, j < k → neW X (L.getD j zeroWl) = true) (hl : L.length ≤ 1000) (hc : CellsAt w ro (wlsC L)) :
    Calls Try.prog 125 #[.slice ro L.length rc, .agg (wlC X)] w
      fun e w' => e = .returned (.int .i64 (k : Nat)) ∧ Below w.heap.size w w' := by
  have HC := Lib.hid hc
  have HNO := Lib.hid hno
  have HX := Lib.hid hX
  clear hno hX hc
  go_enter Try.func125, Try.ntmps125
  go_wp2
  have bX0 := HeldB.new w 99 (wlC X)
  have hB0 := below_alloc w (.cells (wlC X) 99)
  go_loopw [8] (fun vi wr => ∃ i : Nat, i ≤ k ∧ vi = .int .i64 i ∧ HeldB wr w.heap.size 99 (wlC X) ∧ Below w.heap.size w wr) (fun vi _ => k + 1 - (intOf vi).toNat)
  case atStart => exact ⟨0, Nat.zero_le _, rfl, bX0, hB0⟩
  case round =>
    clear bX0 hB0
    obtain ⟨i, hi, rfl, bX, hB⟩ := hrel
    have hil : i < L.length := by omega
    have hlt' : decide ((i : Int) < (L.length : Int)) = true := by rw [decide_eq_true_eq]; omega
    obtain ⟨b, off, rfl, hrg⟩ := wls_range (HC.out.below hB) hil
    by_cases hik : i < k
    · have hne : neW X (L.getD i zeroWl) = true := HNO.out i hik
      generalize L.getD i zeroWl = Y at *
      have HRUN := Lib.hid (fun w => by have := run_eql_wl X Y w; rw [hne] at this; exact this)
      have HRY := Lib.hid (range_regrown hrg)
      have HRX := Lib.hid (range_regrown bX.range)
      clear hne hrg
      go_wp2
      refine wp_region_quiet_below (by kernel_rfl) (by kernel_rfl) ?_
      refine wpQuiet_load_mid (by rfl) 99 _ rfl w.heap.size 0 (by rfl) (wlC X).toList (wlC X) rfl _ HRX.out Try.underlying99 rfl Try.sizeWl ?_
      go_simp
      repeat (first | go_big_quiet_step (fail))
      refine wpQuiet_load_mid (by rfl) 99 _ rfl b (off + i * 4) (by rfl) (wlC Y).toList (wlC Y) rfl _ HRY.out Try.underlying99 rfl Try.sizeWl ?_
      go_simp
      refine wpQuiet_bin (by rfl) .eql 99 _ _ _ rfl (.bool false) (fun w => guard_wl _ _ _ _ _ w) (fun w => HRUN.out w) ?_
      go_simp
      repeat (first | go_big_quiet_step (fail))
      refine wpQuiet_nil ?_
      intro r
      have hb7 := below_regrown wr r.d r.os
      generalize Sort.grow (redrawn wr r.d) r.os = W7 at *
      have bX7 := bX.below hb7
      have hB7 := below_step hB hB.size hb7
      go_wp2
      go_roundw
      case rel => exact ⟨i + 1, by omega, by go_num, bX7, hB7⟩
      case measure => simp [intOf]; omega
    · have hik' : i = k := by omega
      have hne : neW X (L.getD i zeroWl) = false := by rw [hik', HX.out, neW_self]
      have HIK := Lib.hid hik'
      clear hik' hik
      generalize L.getD i zeroWl = Y at *
      have HRUN := Lib.hid (fun w => by have := run_eql_wl X Y w; rw [hne] at this; exact this)
      have HRY := Lib.hid (range_regrown hrg)
      have HRX := Lib.hid (range_regrown bX.range)
      clear hne hrg
      go_wp2
      refine wp_region_quiet_below (by kernel_rfl) (by kernel_rfl) ?_
      refine wpQuiet_load_mid (by rfl) 99 _ rfl w.heap.size 0 (by rfl) (wlC X).toList (wlC X) rfl _ HRX.out Try.underlying99 rfl Try.sizeWl ?_
      go_simp
      repeat (first | go_big_quiet_step (fail))
      refine wpQuiet_load_mid (by rfl) 99 _ rfl b (off + i * 4) (by rfl) (wlC Y).toList (wlC Y) rfl _ HRY.out Try.underlying99 rfl Try.sizeWl ?_
      go_simp
      refine wpQuiet_bin (by rfl) .eql 99 _ _ _ rfl (.bool true) (fun w => guard_wl _ _ _ _ _ w) (fun w => HRUN.out w) ?_
      go_simp
      repeat (first | go_big_quiet_step (fail))
      refine wpQuiet_nil ?_
      intro r
      have hb7 := below_regrown wr r.d r.os
      generalize Sort.grow (redrawn wr r.d) r.os = W7 at *
      have bX7 := bX.below hb7
      have hB7 := below_step hB hB.size hb7
      go_wp2
      go_ret
      exact ⟨ret_int (by rw [HIK.out]), hB7⟩

/-! ### the longest wall -/

def longOk (p : List ByteArray) : Bool := decide (0 < (wallsP p).length)
def longI (p : List ByteArray) : Nat := if longOk p = true then lngAt (wallsP p) (wallsP p).length else 0
def longN (p : List ByteArray) : Nat := if longOk p = true then ((wallsP p).getD (lngAt (wallsP p) (wallsP p).length) zeroWl).long else 0

set_option maxRecDepth 100000 in
set_option maxHeartbeats 2000000 in
theorem implWallLongest_any (ao : Option Addr) (cap : Nat) (p : List ByteArray) (w : World) (hl : p.length ≤ 1048576) (hs : ∀ s ∈ p, s.size ≤ 1048576) (hc : CellsAt w ao (p.map Value.string)) :
    Calls Try.prog 69 #[.slice ao p.length cap] w fun e w' => e = .returned (.tuple #[.int .i64 (longI p : Nat), .int .i64 (longN p : Nat), .bool (longOk p)]) ∧ Below w.heap.size w w' := by
  have HLE := Lib.hid (wallsP_len p)
  have HRP := Lib.hid (fun w hc => by have := readPlan_any ao cap p w hl hs hc; rw [readC_plan, readOk_eq] at this; exact this)
  have HWA := Lib.hid (fun w => walls_any (planH p) (planW p) (planR p) (planG p) w (planH_le p) (planW_le p))
  have HPS := Lib.hid (plan_size (planH p) (planW p) (planR p) (planG p))
  have HP1 := Lib.hid (planC_one (planH p) (planW p) (planR p) (planG p))
  have HCS := Lib.hid (planC_size (planH p) (planW p) (planR p) (planG p))
  change Hid (∀ w, Calls _ _ _ w fun e w' => ∃ ro rc, e = .returned (.slice ro (wallsP p).length rc) ∧ w'.ownsRow w.heap.size 99 4 (.slice ro (wallsP p).length rc) (wallsP p).length (wlsC (wallsP p)) ∧ Below w.heap.size w w') at HWA
  unfold longI longN longOk
  generalize wallsP p = L at *
  generalize planC (planH p) (planW p) (planR p) (planG p) = C at *
  generalize planB p = pb at *
  by_cases h0 : 0 < L.length
  · rw [decide_eq_true h0, if_pos rfl, if_pos rfl]
    have hz : ((L.length : Int) == 0) = false := by rw [beq_eq_false_iff_ne]; omega
    have hle := HLE.out
    have HMF := Lib.hid (fun ro rc w hc => maxFunc_any ro rc L w h0 (by omega) hc)
    have HIX := Lib.hid (fun ro rc w hc => indexOf_any ro rc L (L.getD (lngAt L L.length) zeroWl) (lngAt L L.length) w (lngAt_lt L L.length h0) rfl (fun j hj => by
      have := lngAt_first L L.length j hj
      cases hn : neW (L.getD (lngAt L L.length) zeroWl) (L.getD j zeroWl)
      · rw [neW_iff] at hn; rw [hn] at this; omega
      · rfl) (by omega) hc)
    generalize lngAt L L.length = k at *
    generalize L.getD k zeroWl = X at *
    go_enter Try.func69, Try.ntmps69
    go_wp2_with (first
      | (refine wpList_alloc_zero rfl 62 rfl zeroC zero_plan ?_)
      | (refine wpList_store_new rfl 62 _ _ rfl _ zeroC C rfl rfl rfl HPS.out (by rw [HCS.out]; rfl) HP1.out ?_)
      | (refine wpList_store_new rfl 99 _ _ rfl _ (wlC zeroWl) (wlC X) rfl rfl rfl (wl_size _) rfl (wlC_one _) ?_)
      | (refine wpList_load_row rfl 62 _ rfl w1.heap.size rfl 62 C (0, 0) _ (HeldB.new w1 _ _) Try.underlying62 rfl HPS.out ?_)
      | (go_at_call 77; refine (HRP.out _ hc).mono ?_; rintro e w1 ⟨rfl, hb1⟩)
      | (go_at_call 120; refine (HWA.out _).mono ?_; rintro e w2 ⟨ro, rc, rfl, hown, hb2⟩; have hce := ownsK_cells hown)
      | (go_at_call 122; refine (HMF.out _ _ _ hce).mono ?_; rintro e w3 ⟨rfl, hb3⟩))
    have bX3 := HeldB.new w3 99 (wlC X)
    have hce3 := (hce.below hb3).below (below_alloc w3 (.cells (wlC X) 99))
    have hb4 := below_alloc w3 (.cells (wlC X) 99)
    have hB4 : Below w.heap.size w (w3.alloc (.cells (wlC X) 99)) := below_step hb1 hb1.size ((below_alloc w1 (.cells C 62)).trans ((below_step hb2 hb2.size (below_step hb3 hb3.size hb4)).mono (by simp)))
    generalize hW : w3.alloc (.cells (wlC X) 99) = W at *
    generalize w3.heap.size = B at *
    have HIX2 := Lib.hid (fun (d : Nat) (os : Array Obj) => Calls.regrown_of (HIX.out ro rc (Sort.grow (redrawn W d) os) (hce3.below (below_regrown W d os))))
    have HRX := Lib.hid (range_regrown bX3.range)
    have hx3 : ∀ r : Regrown, (Sort.grow (redrawn W r.d) r.os).cell? ⟨B, 3, none⟩ = some (.int .i64 (X.long : Nat)) := fun r => cell_regrown (bX3.cell 3) r.d r.os
    clear hW hb1 hb2 hb3 hb4 hown
    simp only [Act.put]
    refine wp_region_quiet_below (by kernel_rfl) (by kernel_rfl) ?_
    repeat (first | go_big_quiet_step (fail))
    refine wpQuiet_load_mid (by rfl) 99 _ rfl B 0 (by rfl) (wlC X).toList (wlC X) rfl _ HRX.out Try.underlying99 rfl Try.sizeWl ?_
    go_simp
    repeat (first | go_big_quiet_step (with_reducible exact HIX2.out _ _) | quiet_step (with_reducible exact HIX2.out _ _))
    refine wpQuiet_nil ?_
    intro r
    have hb7 := below_regrown W r.d r.os
    generalize Sort.grow (redrawn W r.d) r.os = W7 at *
    go_wp2
    refine bodyPost_ret (v := .tuple #[.int .i64 (k : Nat), .int .i64 (X.long : Nat), .bool true]) (by simp [results, Try.results69, go_sem]) rfl ⟨rfl, below_step hB4 hB4.size hb7⟩
  · rw [decide_eq_false h0, if_neg (by decide), if_neg (by decide)]
    have hz : ((L.length : Int) == 0) = true := by rw [beq_iff_eq]; omega
    go_enter Try.func69, Try.ntmps69
    go_wp2_with (first
      | (refine wpList_alloc_zero rfl 62 rfl zeroC zero_plan ?_)
      | (refine wpList_store_new rfl 62 _ _ rfl _ zeroC C rfl rfl rfl HPS.out (by rw [HCS.out]; rfl) HP1.out ?_)
      | (refine wpList_load_row rfl 62 _ rfl w1.heap.size rfl 62 C (0, 0) _ (HeldB.new w1 _ _) Try.underlying62 rfl HPS.out ?_)
      | (go_at_call 77; refine (HRP.out _ hc).mono ?_; rintro e w1 ⟨rfl, hb1⟩)
      | (go_at_call 120; refine (HWA.out _).mono ?_; rintro e w2 ⟨ro, rc, rfl, hown, hb2⟩))
    refine bodyPost_ret (v := .tuple #[.int .i64 0, .int .i64 0, .bool false]) (by simp [results, Try.results69, go_sem]) rfl ⟨rfl, ?_⟩
    exact below_step hb1 hb1.size ((below_alloc w1 (.cells C 62)).trans (hb2.mono (by simp)))

end Go.Proofs.Ytdhnklaflbaeeaa

/-
  The longest wall: the model's answer. (Walk.)
-/
namespace Go.Proofs.Ytdhnklaflbaeeaa
open Go.RowKit

theorem wlN_getD {L : List Wl} {i : Nat} (hi : i < L.length) : (L.map wlN).getD i [] = wlN (L.getD i zeroWl) := by simp [hi]
/-- a wall's four numbers, read out of a slice of slices -/
theorem rows_wl {w : World} {base : Nat} {uo : Option Addr} {uc : Nat} {L : List Wl} {us : List Value} (h : RowsAt w base uo uc (L.map wlN) us) {i : Nat} (hi : i < L.length) :
    ∃ bb off g c, uo = some ⟨bb, off, none⟩ ∧ w.cell? ⟨bb, off + i, none⟩ = some (.slice (some ⟨g, 0, none⟩) 4 c) ∧ w.cell? ⟨g, 0, none⟩ = some (.int .i64 ((L.getD i zeroWl).way : Nat)) ∧
      w.cell? ⟨g, 1, none⟩ = some (.int .i64 ((L.getD i zeroWl).line : Nat)) ∧ w.cell? ⟨g, 2, none⟩ = some (.int .i64 ((L.getD i zeroWl).first : Nat)) ∧ w.cell? ⟨g, 3, none⟩ = some (.int .i64 ((L.getD i zeroWl).long : Nat)) := by
  have hl : i < (L.map wlN).length := by rw [List.length_map]; exact hi
  obtain ⟨bb, off, g, c, h1, h2, h3, _⟩ := h.row hl (by rw [wlN_getD hi]; exact Nat.succ_pos _)
  rw [wlN_getD hi] at h2 h3
  have key : ∀ j v, (wlN (L.getD i zeroWl))[j]? = some v → w.cell? ⟨g, j, none⟩ = some (.int .i64 v) := fun j v hv => by
    obtain ⟨b', o', he, hc⟩ := h3 j (.int .i64 v) (by rw [List.getElem?_map, hv]; rfl)
    simp only [Option.some.injEq, Addr.mk.injEq, and_true] at he
    obtain ⟨rfl, rfl⟩ := he
    rwa [Nat.zero_add] at hc
  exact ⟨bb, off, g, c, h1, h2, key 0 _ rfl, key 1 _ rfl, key 2 _ rfl, key 3 _ rfl⟩

theorem planB_walls {p : List ByteArray} (h : longOk p = true) : planB p = true := by
  cases hp : planB p
  · unfold longOk at h; rw [wallsP_no hp] at h; simp at h
  · rfl

set_option maxRecDepth 100000 in
set_option maxHeartbeats 2000000 in
theorem specWallLongest_any (ao : Option Addr) (cap : Nat) (p : List ByteArray) (w : World) (hl : p.length ≤ 1048576) (hs : ∀ s ∈ p, s.size ≤ 1048576) (hc : CellsAt w ao (p.map Value.string)) :
    Calls Try.prog 70 #[.slice ao p.length cap] w fun e w' => e = .returned (.tuple #[.int .i64 (longI p : Nat), .int .i64 (longN p : Nat), .bool (longOk p)]) ∧ Below w.heap.size w w' := by
  cases hp : planB p
  · have h0 : longOk p = false := by cases h : longOk p; rfl; rw [planB_walls h] at hp; cases hp
    unfold longI longN
    rw [h0, if_neg (by decide), if_neg (by decide)]
    go_enter Try.func70, Try.ntmps70
    go_wp2_with (go_at_call 21; refine (specPlanIn_any _ _ _ _ hl hs hc).mono ?_; rw [hp]; rintro e w1 ⟨rfl, hb1⟩)
    refine bodyPost_ret (v := .tuple #[.int .i64 0, .int .i64 0, .bool false]) (by simp [results, Try.results70, go_sem]) rfl ⟨rfl, hb1⟩
  · have HW := Lib.hid (fun (w : World) (hc : CellsAt w ao (p.map Value.string)) => l2Walls_any ao cap p w hp hc)
    have hWL := wallsL_walls hp
    rw [hWL] at HW
    have hle := wallsP_len p
    unfold longI longN longOk
    generalize wallsP p = L at *
    by_cases h0 : 0 < L.length
    · rw [decide_eq_true h0, if_pos rfl, if_pos rfl]
      have hz : ((L.length : Int) == 0) = false := by rw [beq_eq_false_iff_ne]; omega
      have hLL : (L.map wlN).length = L.length := List.length_map _
      have HLL := Lib.hid hLL
      rw [hLL] at HW
      clear hLL hWL
      go_enter Try.func70, Try.ntmps70
      go_wp2_with (first
        | (go_at_call 21; refine (specPlanIn_any _ _ _ _ hl hs hc).mono ?_; rw [hp]; rintro e w1 ⟨rfl, hb1⟩; have hc1 := hc.below hb1)
        | (go_at_call 121; refine (HW.out _ hc2).mono ?_; rintro e w3 ⟨ro3, rc3, rfl, hrow3, hb3⟩)
        | (go_at_call 121; refine (HW.out _ hc1).mono ?_; rintro e w2 ⟨ro2, rc2, rfl, _, hb2⟩; have hc2 := hc1.below hb2))
      obtain ⟨us, hus⟩ := hrow3
      have hB3 := below_step hb1 hb1.size (below_step hb2 hb2.size hb3)
      clear hb1 hb2 hb3
      obtain ⟨W3, hW3⟩ : ∃ W3, W3 = w3 := ⟨_, rfl⟩
      have HUS := Lib.hid hus
      clear hus
      go_loopw [6, 7] (fun va vi wr => ∃ i : Nat, 1 ≤ i ∧ i ≤ L.length ∧ vi = .int .i64 i ∧ va = .int .i64 (lngAt L i : Nat) ∧ Quiet w3 wr) (fun _ vi _ => L.length - (intOf vi).toNat)
      case atStart => exact ⟨1, Nat.le_refl _, h0, rfl, by rw [lngAt_one]; rfl, Quiet.refl _⟩
      case round =>
        obtain ⟨i, hi1, hi, rfl, rfl, hq⟩ := hrel
        have hus := HUS.out.below (hq.below _)
        have hat := lngAt_lt L i (by omega)
        have HYES := Lib.hid (@lngAt_yes L i)
        have HNO := Lib.hid (@lngAt_no L i)
        obtain ⟨t, ht⟩ : ∃ t, lngAt L i = t := ⟨_, rfl⟩
        rw [ht] at HYES HNO hat
        have HT := Lib.hid ht
        by_cases hlt : i < L.length
        · have hlt' : decide ((i : Int) < (L.length : Int)) = true := by rw [decide_eq_true_eq]; omega
          obtain ⟨bb, off, g, c, rfl, k0, _, _, _, k3⟩ := rows_wl hus hlt
          obtain ⟨bb2, off2, g2, c2, he, m0, _, _, _, m3⟩ := rows_wl hus (show t < L.length by omega)
          simp only [Option.some.injEq, Addr.mk.injEq, and_true] at he
          obtain ⟨rfl, rfl⟩ := he
          have htl : t < L.length := by omega
          generalize L.getD i zeroWl = X at *
          generalize L.getD t zeroWl = M at *
          clear hus
          by_cases hx : M.long < X.long
          · have hx' : decide ((M.long : Int) < (X.long : Int)) = true := by rw [decide_eq_true_eq]; omega
            have e1 := HYES.out hx
            have HE1 := Lib.hid e1; clear e1
            rw [ht]
            clear ht
            go_wp2
            go_quiet (fail)
            go_wp2
            go_roundw
            case rel => exact ⟨i + 1, by omega, by omega, by go_num, by rw [HE1.out], hq.then nq⟩
            case measure => simp [intOf]; omega
          · have hx' : decide ((M.long : Int) < (X.long : Int)) = false := by rw [decide_eq_false_iff_not]; omega
            have e1 := HNO.out hx
            have HE1 := Lib.hid e1; clear e1
            rw [ht]
            clear ht
            go_wp2
            go_quiet (fail)
            go_wp2
            go_roundw
            case rel => exact ⟨i + 1, by omega, by omega, by go_num, by rw [HE1.out], hq.then nq⟩
            case measure => simp [intOf]; omega
        · obtain rfl : i = L.length := by omega
          have hlt' : decide ((L.length : Int) < (L.length : Int)) = false := by rw [decide_eq_false_iff_not]; omega
          obtain ⟨bb2, off2, g2, c2, rfl, m0, _, _, _, m3⟩ := rows_wl hus (show t < L.length by omega)
          rw [ht]
          obtain ⟨M, hM⟩ : ∃ M, L.getD t zeroWl = M := ⟨_, rfl⟩
          rw [hM] at m3
          have HM := Lib.hid hM
          clear hus ht hM
          go_wp2
          go_quiet (fail)
          go_wp2
          refine bodyPost_ret (v := .tuple #[.int .i64 (t : Nat), .int .i64 (M.long : Nat), .bool true]) (by simp [results, Try.results70, go_sem]) rfl ⟨?_, hB3.trans (((hq.then nq).below _).mono hB3.size)⟩
          rw [HT.out, HM.out]
    · rw [decide_eq_false h0, if_neg (by decide), if_neg (by decide)]
      have hz : ((L.length : Int) == 0) = true := by rw [beq_iff_eq]; omega
      have hLL : (L.map wlN).length = L.length := List.length_map _
      rw [hLL] at HW
      clear hLL hWL
      go_enter Try.func70, Try.ntmps70
      go_wp2_with (first
        | (go_at_call 21; refine (specPlanIn_any _ _ _ _ hl hs hc).mono ?_; rw [hp]; rintro e w1 ⟨rfl, hb1⟩; have hc1 := hc.below hb1)
        | (go_at_call 121; refine (HW.out _ hc1).mono ?_; rintro e w2 ⟨ro2, rc2, rfl, _, hb2⟩))
      refine bodyPost_ret (v := .tuple #[.int .i64 0, .int .i64 0, .bool false]) (by simp [results, Try.results70, go_sem]) rfl ⟨rfl, below_step hb1 hb1.size hb2⟩

end Go.Proofs.Ytdhnklaflbaeeaa
