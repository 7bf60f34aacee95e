
/-
  Merged texts: OrdP OrdQ OrdX.
-/
import Derived.Test.YthlbekookpcacaaOrdIO
import Derived.Test.YthlbekookpcacaaMeet
import Derived.Test.YthlbekookpcacaaRoomA
import Derived.Test.YthlbekookpcacaaOrdMG

/-
  Plain plans read, and which room leads to which. (Walks.)
-/
namespace Go.Proofs.Ythlbekookpcacaa
open Go.RowKit

def plainB (p : List ByteArray) : Bool := planB p && decide (meetN p 4 = 0)
theorem plainB_plan {p : List ByteArray} (h : plainB p = true) : planB p = true := by unfold plainB at h; rw [Bool.and_eq_true] at h; exact h.1
/-- what the order of a list is: none, if it is no plain plan -/
def oH (p : List ByteArray) : Nat := if plainB p = true then p.length else 0
def oW (p : List ByteArray) : Nat := if plainB p = true then wideB p else 0
def oR (p : List ByteArray) : Nat := if plainB p = true then gridR p else 0
def oG (p : List ByteArray) : Nat → Nat → Nat := if plainB p = true then gridG p else fun _ _ => 0
def oF (p : List ByteArray) : Nat → Nat → Nat → Bool := if plainB p = true then ledF p.length (wideB p) (gridR p) (gridG p) else noF
def ordP (p : List ByteArray) : Array Value := ordC (planC (oH p) (oW p) (oR p) (oG p)) (oF p)
theorem ordP_no {p : List ByteArray} (h : plainB p = false) : ordP p = ordC zeroC noF := by
  unfold ordP oH oW oR oG oF; rw [h]; rfl
theorem ordP_yes {p : List ByteArray} (h : plainB p = true) : ordP p = ordC (planC p.length (wideB p) (gridR p) (gridG p)) (ledF p.length (wideB p) (gridR p) (gridG p)) := by
  unfold ordP oH oW oR oG oF; rw [if_pos h, if_pos h, if_pos h, if_pos h, if_pos h]

set_option maxRecDepth 100000 in
set_option maxHeartbeats 1600000 in
theorem isPlain_any (h wd r : Nat) (g : Nat → Nat → Nat) (w : World) (hh : h ≤ 6) (hw : wd ≤ 6) :
    Calls Try.prog 100 #[.agg (planC h wd r g)] w fun e w' => e = .returned (.bool (decide (crossG h wd g = 0))) ∧ Below w.heap.size w w' := by
  have HME := Lib.hid (fun w => meetings_any h wd r g w hh hw)
  have HPS := Lib.hid (plan_size h wd r g)
  have hP := HeldB.new w 50 (planC h wd r g)
  generalize crossG h wd g = n at *
  generalize teeG h wd g = m at *
  generalize endG h wd g = k at *
  generalize planC h wd r g = C at *
  have hd : ((n : Int) == 0) = decide (n = 0) := by rw [Bool.eq_iff_iff, beq_iff_eq, decide_eq_true_eq]; omega
  have HD := Lib.hid hd; clear hd
  have hf : ∀ w, (Instr.field 129 (.agg (mtC n m k)) 0).run Try.prog w = .ok (.int .i64 (n : Nat)) w := fun _ => by kernel_rfl
  go_enter Try.func100, Try.ntmps100
  go_wp2_with (first
    | (refine wpList_load_row rfl 50 _ rfl w.heap.size rfl 50 C (0, 0) _ hP Try.underlying50 rfl HPS.out ?_)
    | (go_at_call 112; refine (HME.out _).mono ?_; rintro e w1 ⟨rfl, hb1⟩))
  go_ret
  refine ⟨ret_bool ?_, (below_alloc w (.cells C 50)).trans (hb1.mono (by simp))⟩
  rw [← HD.out]

theorem results_ord2 {fn : Func} {p u : Tmp} (h : fn.results = #[.cell p 66, .tmp u]) {tmps : Array Value} {w : World} {B : Nat} {C : Array Value} {v : Value}
    (hp : tmps.getD p undef = .pointer (some ⟨B, 0, none⟩)) (hB : HeldB w B 66 C) (hs : C.size = 201) (hv : tmps.getD u undef = v) :
    (results fn tmps).run Try.prog w = .ok (.tuple #[.agg C, v]) w := by
  rw [results_cell_tmp h, hp, hv]
  have hr := run_loadVar_row (P := Try.prog) w B 66 66 C (0, 0) _ hB Try.underlying66 rfl (by rw [hs]; kernel_rfl)
  simp [asAddr, hr, Result.andThen]

set_option maxRecDepth 100000 in
set_option maxHeartbeats 4000000 in
theorem readOrder_any (ao : Option Addr) (cap : Nat) (p : List ByteArray) (w : World) (hl : p.length ≤ 1048576) (hs : ∀ s ∈ p, s.size ≤ 1048576) (hc : CellsAt w ao (p.map Value.string)) :
    Calls Try.prog 76 #[.slice ao p.length cap] w fun e w' => e = .returned (.tuple #[.agg (ordP p), .bool (plainB p)]) ∧ Below w.heap.size w w' := by
  have HZ0 := Lib.hid zero_ordC
  have HZS := Lib.hid (show (ordC zeroC noF).size = 201 from ordC_size (planC_size _ _ _ _) _)
  have HZ1 := Lib.hid (ordC_one (planC_one 0 0 0 (fun _ _ => 0)) noF)
  have HZI := Lib.hid (show (Try.prog.info? 66).map (·.size) = some (ordC zeroC noF).size from ord_info (planC_size 0 0 0 (fun _ _ => 0)) noF)
  have HZB := Lib.hid built_noord
  change Hid ((ordC zeroC noF).all (·.oneCell') = true) at HZ1
  have HRP := Lib.hid (fun w hc => by have := readPlan_any ao cap p w hl hs hc; rw [readC_plan, readOk_eq] at this; exact this)
  have HIP := Lib.hid (fun w => isPlain_any (planH p) (planW p) (planR p) (planG p) w (planH_le p) (planW_le p))
  have HPS := Lib.hid (plan_size (planH p) (planW p) (planR p) (planG p))
  have HP1 := Lib.hid (planC_one (planH p) (planW p) (planR p) (planG p))
  have HCS := Lib.hid (planC_size (planH p) (planW p) (planR p) (planG p))
  have HMX := Lib.hid (meet_cross p)
  rw [HMX.out] at HIP
  have fin0 : plainB p = false → ordP p = ordC zeroC noF := ordP_no
  cases hp : planB p
  · have hpl : plainB p = false := by unfold plainB; rw [hp]; rfl
    rw [hpl, fin0 hpl]
    rw [hp] at HRP
    clear fin0 HIP hp
    generalize planC (planH p) (planW p) (planR p) (planG p) = C at *
    generalize ordC zeroC noF = Z at *
    have hz1 := HeldB.new w 66 Z
    go_enter Try.func76, Try.ntmps76
    go_wp2_with (first
      | (refine wpList_alloc_zero rfl 66 rfl Z HZ0.out ?_)
      | (refine wpList_alloc_zero rfl 50 rfl zeroC zero_plan ?_)
      | (refine wpList_store_new rfl 50 _ _ rfl _ zeroC C rfl rfl rfl HPS.out (by rw [HCS.out]; rfl) HP1.out ?_)
      | (refine wpList_build_as rfl 66 _ rfl Z (by simp only [List.map_toArray, List.map_nil]; exact HZB.out) ?_)
      | (refine wpList_store_row rfl 66 _ _ rfl w.heap.size Z rfl rfl 66 Z hz2 HZI.out rfl HZ1.out ?_)
      | (go_at_call 43; refine (HRP.out _ (hc.below (below_alloc _ _))).mono ?_; rintro e w1 ⟨rfl, hb1⟩; have hz2 := (hz1.below hb1).alloc (.cells C 50)))
    refine bodyPost_ret (results_ord2 rfl rfl (hz2.setRow Z) HZS.out rfl) rfl ⟨rfl, ?_⟩
    refine below_setRowB ?_ (Nat.le_refl _) _
    exact ((below_alloc w (.cells Z 66)).trans (hb1.mono (by simp))).trans ((below_alloc w1 (.cells C 50)).mono (by have := hb1.size; simp at this; omega))
  · have HOR := Lib.hid (fun w => order_any p.length (wideB p) (gridR p) (gridG p) w (planP_of hp).grid.h6 (planP_of hp).grid.w6 (planP_of hp).few (fun i j hi hj => gridG_lt hi hj))
    have HPC := Lib.hid (show planC (planH p) (planW p) (planR p) (planG p) = planC p.length (wideB p) (gridR p) (gridG p) by unfold planH planW planR planG; rw [if_pos hp, if_pos hp, if_pos hp, if_pos hp])
    rw [HPC.out] at HRP HIP HPS HP1 HCS
    have HL := Lib.hid (ord_info HCS.out (ledF p.length (wideB p) (gridR p) (gridG p)))
    have HLS := Lib.hid (ordC_size HCS.out (ledF p.length (wideB p) (gridR p) (gridG p)))
    have HL1 := Lib.hid (ordC_one HP1.out (ledF p.length (wideB p) (gridR p) (gridG p)))
    have HPB := Lib.hid (show plainB p = decide (meetN p 4 = 0) by unfold plainB; rw [hp]; rfl)
    have HY := Lib.hid (fun h => ordP_yes (p := p) h)
    have HNO := Lib.hid fin0
    clear fin0 HPC
    rw [hp] at HRP
    clear hp HMX
    generalize ledF p.length (wideB p) (gridR p) (gridG p) = LF at *
    generalize planC p.length (wideB p) (gridR p) (gridG p) = C at *
    generalize ordC C LF = D at *
    generalize ordC zeroC noF = Z at *
    have hz1 := HeldB.new w 66 Z
    cases hpl : plainB p
    · rw [HNO.out hpl]
      have hx : decide (meetN p 4 = 0) = false := by rw [← HPB.out]; exact hpl
      rw [hx] at HIP
      clear HPB HNO HY hx hpl
      go_enter Try.func76, Try.ntmps76
      go_wp2_with (first
        | (refine wpList_alloc_zero rfl 66 rfl Z HZ0.out ?_)
        | (refine wpList_alloc_zero rfl 50 rfl zeroC zero_plan ?_)
        | (refine wpList_store_new rfl 50 _ _ rfl _ zeroC C rfl rfl rfl HPS.out (by rw [HCS.out]; rfl) HP1.out ?_)
        | (refine wpList_load_row_guard rfl 50 _ rfl w1.heap.size rfl 50 C (0, 0) _ (HeldB.new w1 _ _) Try.underlying50 rfl HPS.out ?_)
        | (refine wpList_build_as rfl 66 _ rfl Z (by simp only [List.map_toArray, List.map_nil]; exact HZB.out) ?_)
        | (refine wpList_store_row rfl 66 _ _ rfl w.heap.size Z rfl rfl 66 Z hz3 HZI.out rfl HZ1.out ?_)
        | (go_at_call 100; refine (HIP.out _).mono ?_; rintro e w2 ⟨rfl, hb2⟩; have hz3 := hz2.below hb2)
        | (go_at_call 43; refine (HRP.out _ (hc.below (below_alloc _ _))).mono ?_; rintro e w1 ⟨rfl, hb1⟩; have hz2 := (hz1.below hb1).alloc (.cells C 50)))
      refine bodyPost_ret (results_ord2 rfl rfl (hz3.setRow Z) HZS.out rfl) rfl ⟨rfl, ?_⟩
      refine below_setRowB ?_ (Nat.le_refl _) _
      have hsz := hb1.size
      simp at hsz
      exact (((below_alloc w (.cells Z 66)).trans (hb1.mono (by simp))).trans ((below_alloc w1 (.cells C 50)).mono (by omega))).trans (hb2.mono (by simp; omega))
    · rw [HY.out hpl]
      have hx : decide (meetN p 4 = 0) = true := by rw [← HPB.out]; exact hpl
      rw [hx] at HIP
      clear HPB HNO HY hx hpl
      go_enter Try.func76, Try.ntmps76
      go_wp2_with (first
        | (refine wpList_alloc_zero rfl 66 rfl Z HZ0.out ?_)
        | (refine wpList_alloc_zero rfl 50 rfl zeroC zero_plan ?_)
        | (refine wpList_store_new rfl 50 _ _ rfl _ zeroC C rfl rfl rfl HPS.out (by rw [HCS.out]; rfl) HP1.out ?_)
        | (refine wpList_load_row rfl 50 _ rfl w1.heap.size rfl 50 C (0, 0) _ bC3 Try.underlying50 rfl HPS.out ?_)
        | (refine wpList_load_row_guard rfl 50 _ rfl w1.heap.size rfl 50 C (0, 0) _ (HeldB.new w1 _ _) Try.underlying50 rfl HPS.out ?_)
        | (refine wpList_store_row rfl 66 _ _ rfl w.heap.size D rfl rfl 66 Z hz4 HL.out (by rw [HZS.out, HLS.out]) HL1.out ?_)
        | (go_at_call 100; refine (HIP.out _).mono ?_; rintro e w2 ⟨rfl, hb2⟩; have hz3 := hz2.below hb2; have bC3 := (HeldB.new w1 50 C).below hb2)
        | (go_at_call 101; refine (HOR.out _).mono ?_; rintro e w3 ⟨rfl, hb3⟩; have hz4 := hz3.below hb3)
        | (go_at_call 43; refine (HRP.out _ (hc.below (below_alloc _ _))).mono ?_; rintro e w1 ⟨rfl, hb1⟩; have hz2 := (hz1.below hb1).alloc (.cells C 50)))
      refine bodyPost_ret (results_ord2 rfl rfl (hz4.setRow D) HLS.out rfl) rfl ⟨rfl, ?_⟩
      refine below_setRowB ?_ (Nat.le_refl _) _
      have hsz := hb1.size
      simp at hsz
      have hs2 := hb2.size
      simp at hs2
      exact ((((below_alloc w (.cells Z 66)).trans (hb1.mono (by simp))).trans ((below_alloc w1 (.cells C 50)).mono (by omega))).trans (hb2.mono (by simp; omega))).trans (hb3.mono (by omega))

def oRm (r : Nat) (room : Int) : Bool := decide (0 ≤ room) && decide (room < (r : Int))
theorem oRm_iff {r : Nat} {room : Int} : oRm r room = true ↔ 0 ≤ room ∧ room < (r : Int) := by unfold oRm; simp
theorem given_oRm {p : List ByteArray} {room : Int} (h : planB p = true) : givenB p room = oRm (gridR p) room := by
  have hr := (planP_of h).rooms
  unfold givenB l6B oRm
  rw [h, Bool.true_and, hr, ← Bool.decide_and]
  congr 1
  rw [eq_iff_iff]
  omega

theorem wpList_load_plan_guard {P : Program} {ops : Array Oper} {rest : List Oper} {op : Oper} {a : Act} {w : World} {Q : Exit → Act → World → Prop} (hw : Region.wanted op (yielded ops a.tmps) = true) (ty : TypeId) (x : Operand) (ho : op.op = .load ty x)
    (b o : Nat) (hx : a.eval x = .pointer (some ⟨b, o, none⟩)) (C : Array Value) (d : TypeDesc) (hc : w.rangeAt b o C.toList)
    (hu : P.underlying ty = some d) (hd : d.isRow = true) (hi : (P.info? ty).map (·.size) = some C.toList.length)
    (h : wpList P ops Q rest (a.put op.dst (.agg C)) w) : wpList P ops Q (op :: rest) a w :=
  wpList_step fun K hK => by
    rw [if_pos hw]
    exact wp_load_mid ty x ho b o hx C.toList d hc hu hd hi (by simpa using hK _ _ h)

/-- whether a room leads to another one, told by numbers of any kind -/
def isLd (r : Nat) (F : Nat → Nat → Nat → Bool) (way : Nat) (a b : Int) : Bool := oRm r a && oRm r b && F way a.toNat b.toNat

end Go.Proofs.Ythlbekookpcacaa

/-
  The program's answers about two rooms: left, above, the kind. (Walks.)
-/
namespace Go.Proofs.Ythlbekookpcacaa
open Go.RowKit

theorem oR_le (p : List ByteArray) : oR p ≤ 9 := by
  unfold oR; split
  · rename_i h; exact (planP_of (plainB_plan h)).few
  · omega
/-- whether a room of a list leads to another one -/
def ledP (p : List ByteArray) (way : Nat) (a b : Int) : Bool := isLd (oR p) (oF p) way a b
theorem ordP_size (p : List ByteArray) : (ordP p).size = 201 := ordC_size (planC_size _ _ _ _) _
theorem ordP_info (p : List ByteArray) : (Try.prog.info? 66).map (·.size) = some (ordP p).size := ord_info (planC_size _ _ _ _) _
theorem ordP_one (p : List ByteArray) : (ordP p).all (·.oneCell') = true := ordC_one (planC_one _ _ _ _) _

/-- the kind: a text and whether there is one -/
def kindT (x1 x2 x3 x4 : Bool) : ByteArray := if x1 then ⟨#[108]⟩ else if x2 then ⟨#[114]⟩ else if x3 then ⟨#[117]⟩ else if x4 then ⟨#[100]⟩ else ⟨#[]⟩
def kindK (x1 x2 x3 x4 : Bool) : Bool := x1 || x2 || x3 || x4
def kindV (p : List ByteArray) (a b : Int) : ByteArray := kindT (ledP p 0 a b) (ledP p 0 b a) (ledP p 1 a b) (ledP p 1 b a)
def kindB (p : List ByteArray) (a b : Int) : Bool := kindK (ledP p 0 a b) (ledP p 0 b a) (ledP p 1 a b) (ledP p 1 b a)

end Go.Proofs.Ythlbekookpcacaa

/-
  What of two rooms of a plain list there is. (Plain mathematics.)
-/
namespace Go.Proofs.Ythlbekookpcacaa

/-- plain plans have no cross -/
theorem noX_of {p : List ByteArray} (h : plainB p = true) : NoX p.length (wideB p) (gridG p) := by
  have hp := plainB_plan h
  have hP := planP_of hp
  have h0 : meetN p 4 = 0 := by
    unfold plainB at h; rw [Bool.and_eq_true, decide_eq_true_eq] at h; exact h.2
  unfold meetN at h0
  rw [if_pos hp, pts_grid hP] at h0
  intro i k i1 i2 k1 k2 ⟨a1, a2, a3, a4⟩
  have hr := hP.rectG
  have hz : metG (gridG p) 4 i k = false := by
    unfold ptsG at h0
    rw [List.sum_eq_zero_iff_forall_eq_nat] at h0
    have := h0 _ (List.mem_map.2 ⟨i, List.mem_range.2 i2, rfl⟩)
    rw [List.countP_eq_zero] at this
    simpa using this k (List.mem_range.2 k2)
  have d1 : gridG p i (k - 1) ≠ gridG p (i - 1) k := fun e => by
    have := rect_two hr (i := i - 1) (j := k) (i' := i) (j' := k - 1) (by omega) k2 i2 (by omega) e
    exact a1 this.1
  have d2 : gridG p i k ≠ gridG p (i - 1) (k - 1) := fun e => by
    have := rect_two hr (i := i - 1) (j := k - 1) (i' := i) (j' := k) (by omega) (by omega) i2 k2 e
    exact a1 this.1.symm
  unfold metG meetG b2n at hz
  rw [decide_eq_true i1, decide_eq_true k1] at hz
  simp only [Bool.true_and, decide_eq_false_iff_not] at hz
  apply hz
  rw [decide_eq_true (show gridG p (i - 1) k ≠ gridG p (i - 1) (k - 1) from fun e => a1 e.symm), decide_eq_true (show gridG p i (k - 1) ≠ gridG p (i - 1) (k - 1) from fun e => a3 e.symm), decide_eq_true d1, decide_eq_true d2,
    decide_eq_true (show gridG p i k ≠ gridG p (i - 1) k from fun e => a4 e.symm), decide_eq_true (show gridG p i k ≠ gridG p i (k - 1) from fun e => a2 e.symm)]
  rfl
/-- leads of plans -/
def pL (p : List ByteArray) (way : Nat) : Nat → Nat → Bool := leadG p.length (wideB p) (gridR p) (gridG p) way
theorem pL_left {p : List ByteArray} {a b : Nat} : pL p 0 a b = true ↔ LL p.length (wideB p) (gridG p) a b := leadG_left (fun _ _ hi hj => gridG_lt hi hj)
theorem pL_above {p : List ByteArray} {a b : Nat} : pL p 1 a b = true ↔ AA p.length (wideB p) (gridG p) a b := leadG_above (fun _ _ hi hj => gridG_lt hi hj)
theorem room_at {p : List ByteArray} {a : Nat} (ha : a < gridR p) : ∃ i j, i < p.length ∧ j < wideB p ∧ gridG p i j = a := room_cell (m := markN p) ha
theorem pL_self {p : List ByteArray} (h : plainB p = true) {a : Nat} (ha : a < gridR p) (way : Nat) (hw : way < 2) : pL p way a a = false := by
  have hr := (planP_of (plainB_plan h)).rectG
  obtain ⟨i, j, hi, hj, rfl⟩ := room_at ha
  rw [Bool.eq_false_iff]
  rcases (show way = 0 ∨ way = 1 by omega) with rfl | rfl
  · rw [Ne, pL_left]
    intro e
    exact Nat.lt_irrefl _ (left_cols hr (noX_of h) hi hj hi hj e)
  · rw [Ne, pL_above]
    intro e
    exact Nat.lt_irrefl _ (above_rows hr (noX_of h) hi hj hi hj e)
theorem pL_some {p : List ByteArray} (h : planB p = true) {a b : Nat} (ha : a < gridR p) (hb : b < gridR p) (hne : a ≠ b) : pL p 0 a b = true ∨ pL p 0 b a = true ∨ pL p 1 a b = true ∨ pL p 1 b a = true := by
  rw [pL_left, pL_left, pL_above, pL_above]
  obtain ⟨i, j, hi, hj, rfl⟩ := room_at ha
  obtain ⟨x, y, hx, hy, rfl⟩ := room_at hb
  exact some_order (planP_of h).rectG hi hj hx hy hne
theorem pL_one {p : List ByteArray} (h : plainB p = true) {a b : Nat} (ha : a < gridR p) (hb : b < gridR p) (hl : pL p 0 a b = true) : pL p 0 b a = false ∧ pL p 1 a b = false ∧ pL p 1 b a = false := by
  have hr := (planP_of (plainB_plan h)).rectG
  have nx := noX_of h
  have hA := room_at ha
  have hB := room_at hb
  rw [pL_left] at hl
  refine ⟨?_, ?_, ?_⟩
  · rw [Bool.eq_false_iff, Ne, pL_left]
    intro e
    obtain ⟨i, j, hi, hj, rfl⟩ := hA
    obtain ⟨x, y, hx, hy, rfl⟩ := hB
    exact Nat.lt_asymm (left_cols hr nx hi hj hx hy hl) (left_cols hr nx hx hy hi hj e)
  · rw [Bool.eq_false_iff, Ne, pL_above]; exact fun e => not_both hr nx hA hB ⟨hl, e⟩
  · rw [Bool.eq_false_iff, Ne, pL_above]; exact fun e => not_cross hr nx hA hB ⟨hl, e⟩
theorem pL_over {p : List ByteArray} (h : plainB p = true) {a b : Nat} (ha : a < gridR p) (hb : b < gridR p) (hl : pL p 1 a b = true) : pL p 1 b a = false ∧ pL p 0 a b = false ∧ pL p 0 b a = false := by
  have hr := (planP_of (plainB_plan h)).rectG
  have nx := noX_of h
  refine ⟨?_, ?_, ?_⟩
  · rw [pL_above] at hl
    rw [Bool.eq_false_iff, Ne, pL_above]
    intro e
    obtain ⟨i, j, hi, hj, rfl⟩ := room_at ha
    obtain ⟨x, y, hx, hy, rfl⟩ := room_at hb
    exact Nat.lt_asymm (above_rows hr nx hi hj hx hy hl) (above_rows hr nx hx hy hi hj e)
  · rw [Bool.eq_false_iff]; intro e; rw [(pL_one h ha hb e).2.1] at hl; cases hl
  · rw [Bool.eq_false_iff]; intro e; rw [(pL_one h hb ha e).2.2] at hl; cases hl
theorem pL_trans {p : List ByteArray} {way a b c : Nat} (hw : way < 2) (h1 : pL p way a b = true) (h2 : pL p way b c = true) : pL p way a c = true := by
  rcases (show way = 0 ∨ way = 1 by omega) with rfl | rfl
  · rw [pL_left] at *; exact Relation.TransGen.trans h1 h2
  · rw [pL_above] at *; exact Relation.TransGen.trans h1 h2

/-- what the program keeps, told by leads -/
theorem ledP_yes {p : List ByteArray} (h : plainB p = true) (way : Nat) (a b : Int) : ledP p way a b = (oRm (gridR p) a && oRm (gridR p) b && pL p way a.toNat b.toNat) := by
  unfold ledP isLd oR oF; rw [if_pos h, if_pos h]; rfl
theorem ledP_no {p : List ByteArray} (h : plainB p = false) (way : Nat) (a b : Int) : ledP p way a b = false := by
  unfold ledP isLd oR oRm; rw [h]
  simp
  omega
theorem ledP_nat {p : List ByteArray} (h : plainB p = true) (way : Nat) {a b : Nat} (ha : a < gridR p) (hb : b < gridR p) : ledP p way (a : Int) (b : Int) = pL p way a b := by
  rw [ledP_yes h, show oRm (gridR p) (a : Int) = true from oRm_iff.2 ⟨by omega, by omega⟩, show oRm (gridR p) (b : Int) = true from oRm_iff.2 ⟨by omega, by omega⟩]
  rfl
theorem ledP_out {p : List ByteArray} {a b : Int} (h : (plainB p && oRm (gridR p) a && oRm (gridR p) b) = false) (way : Nat) : ledP p way a b = false := by
  cases hp : plainB p
  · exact ledP_no hp way a b
  · rw [hp, Bool.true_and] at h
    rw [ledP_yes hp, h, Bool.false_and]
end Go.Proofs.Ythlbekookpcacaa
