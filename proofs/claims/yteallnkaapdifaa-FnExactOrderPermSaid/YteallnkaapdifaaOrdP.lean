
/-
  Plain plans read, and which room leads to which. (Walks.)
-/
import Derived.Test.YteallnkaapdifaaOrdO
import Derived.Test.YteallnkaapdifaaMeet
import Derived.Test.YteallnkaapdifaaRoomA
namespace Go.Proofs.Yteallnkaapdifaa
open Go.RowKit

def plainB (p : List ByteArray) : Bool := planB p && decide (meetN p 4 = 0)
theorem plainB_plan {p : List ByteArray} (h : plainB p = true) : planB p = true := by unfold plainB at h; rw [Bool.and_eq_true] at h; exact h.1
/-- what the order of a list is: none, if it is no plain plan -/
def oH (p : List ByteArray) : Nat := if plainB p = true then p.length else 0
def oW (p : List ByteArray) : Nat := if plainB p = true then wideB p else 0
def oR (p : List ByteArray) : Nat := if plainB p = true then gridR p else 0
def oG (p : List ByteArray) : Nat → Nat → Nat := if plainB p = true then gridG p else fun _ _ => 0
def oF (p : List ByteArray) : Nat → Nat → Nat → Bool := if plainB p = true then ledF p.length (wideB p) (gridR p) (gridG p) else noF
def ordP (p : List ByteArray) : Array Value := ordC (planC (oH p) (oW p) (oR p) (oG p)) (oF p)
theorem ordP_no {p : List ByteArray} (h : plainB p = false) : ordP p = ordC zeroC noF := by
  unfold ordP oH oW oR oG oF; rw [h]; rfl
theorem ordP_yes {p : List ByteArray} (h : plainB p = true) : ordP p = ordC (planC p.length (wideB p) (gridR p) (gridG p)) (ledF p.length (wideB p) (gridR p) (gridG p)) := by
  unfold ordP oH oW oR oG oF; rw [if_pos h, if_pos h, if_pos h, if_pos h, if_pos h]

set_option maxRecDepth 100000 in
set_option maxHeartbeats 1600000 in
theorem isPlain_any (h wd r : Nat) (g : Nat → Nat → Nat) (w : World) (hh : h ≤ 6) (hw : wd ≤ 6) :
    Calls Try.prog 53 #[.agg (planC h wd r g)] w fun e w' => e = .returned (.bool (decide (crossG h wd g = 0))) ∧ Below w.heap.size w w' := by
  have HME := Lib.hid (fun w => meetings_any h wd r g w hh hw)
  have HPS := Lib.hid (plan_size h wd r g)
  have hP := HeldB.new w 41 (planC h wd r g)
  generalize crossG h wd g = n at *
  generalize teeG h wd g = m at *
  generalize endG h wd g = k at *
  generalize planC h wd r g = C at *
  have hd : ((n : Int) == 0) = decide (n = 0) := by rw [Bool.eq_iff_iff, beq_iff_eq, decide_eq_true_eq]; omega
  have HD := Lib.hid hd; clear hd
  have hf : ∀ w, (Instr.field 73 (.agg (mtC n m k)) 0).run Try.prog w = .ok (.int .i64 (n : Nat)) w := fun _ => by kernel_rfl
  go_enter Try.func53, Try.ntmps53
  go_wp2_with (first
    | (refine wpList_load_row rfl 41 _ rfl w.heap.size rfl 41 C (0, 0) _ hP Try.underlying41 rfl HPS.out ?_)
    | (go_at_call 66; refine (HME.out _).mono ?_; rintro e w1 ⟨rfl, hb1⟩))
  go_ret
  refine ⟨ret_bool ?_, (below_alloc w (.cells C 41)).trans (hb1.mono (by simp))⟩
  rw [← HD.out]

theorem results_ord2 {fn : Func} {p u : Tmp} (h : fn.results = #[.cell p 46, .tmp u]) {tmps : Array Value} {w : World} {B : Nat} {C : Array Value} {v : Value}
    (hp : tmps.getD p undef = .pointer (some ⟨B, 0, none⟩)) (hB : HeldB w B 46 C) (hs : C.size = 201) (hv : tmps.getD u undef = v) :
    (results fn tmps).run Try.prog w = .ok (.tuple #[.agg C, v]) w := by
  rw [results_cell_tmp h, hp, hv]
  have hr := run_loadVar_row (P := Try.prog) w B 46 46 C (0, 0) _ hB Try.underlying46 rfl (by rw [hs]; kernel_rfl)
  simp [asAddr, hr, Result.andThen]

set_option maxRecDepth 100000 in
set_option maxHeartbeats 4000000 in
theorem readOrder_any (ao : Option Addr) (cap : Nat) (p : List ByteArray) (w : World) (hl : p.length ≤ 1048576) (hs : ∀ s ∈ p, s.size ≤ 1048576) (hc : CellsAt w ao (p.map Value.string)) :
    Calls Try.prog 36 #[.slice ao p.length cap] w fun e w' => e = .returned (.tuple #[.agg (ordP p), .bool (plainB p)]) ∧ Below w.heap.size w w' := by
  have HZ0 := Lib.hid zero_ordC
  have HZS := Lib.hid (show (ordC zeroC noF).size = 201 from ordC_size (planC_size _ _ _ _) _)
  have HZ1 := Lib.hid (ordC_one (planC_one 0 0 0 (fun _ _ => 0)) noF)
  have HZI := Lib.hid (show (Try.prog.info? 46).map (·.size) = some (ordC zeroC noF).size from ord_info (planC_size 0 0 0 (fun _ _ => 0)) noF)
  have HZB := Lib.hid built_noord
  change Hid ((ordC zeroC noF).all (·.oneCell') = true) at HZ1
  have HRP := Lib.hid (fun w hc => by have := readPlan_any ao cap p w hl hs hc; rw [readC_plan, readOk_eq] at this; exact this)
  have HIP := Lib.hid (fun w => isPlain_any (planH p) (planW p) (planR p) (planG p) w (planH_le p) (planW_le p))
  have HPS := Lib.hid (plan_size (planH p) (planW p) (planR p) (planG p))
  have HP1 := Lib.hid (planC_one (planH p) (planW p) (planR p) (planG p))
  have HCS := Lib.hid (planC_size (planH p) (planW p) (planR p) (planG p))
  have HMX := Lib.hid (meet_cross p)
  rw [HMX.out] at HIP
  have fin0 : plainB p = false → ordP p = ordC zeroC noF := ordP_no
  cases hp : planB p
  · have hpl : plainB p = false := by unfold plainB; rw [hp]; rfl
    rw [hpl, fin0 hpl]
    rw [hp] at HRP
    clear fin0 HIP hp
    generalize planC (planH p) (planW p) (planR p) (planG p) = C at *
    generalize ordC zeroC noF = Z at *
    have hz1 := HeldB.new w 46 Z
    go_enter Try.func36, Try.ntmps36
    go_wp2_with (first
      | (refine wpList_alloc_zero rfl 46 rfl Z HZ0.out ?_)
      | (refine wpList_alloc_zero rfl 41 rfl zeroC zero_plan ?_)
      | (refine wpList_store_new rfl 41 _ _ rfl _ zeroC C rfl rfl rfl HPS.out (by rw [HCS.out]; rfl) HP1.out ?_)
      | (refine wpList_build_as rfl 46 _ rfl Z (by simp only [List.map_toArray, List.map_nil]; exact HZB.out) ?_)
      | (refine wpList_store_row rfl 46 _ _ rfl w.heap.size Z rfl rfl 46 Z hz2 HZI.out rfl HZ1.out ?_)
      | (go_at_call 52; refine (HRP.out _ (hc.below (below_alloc _ _))).mono ?_; rintro e w1 ⟨rfl, hb1⟩; have hz2 := (hz1.below hb1).alloc (.cells C 41)))
    refine bodyPost_ret (results_ord2 rfl rfl (hz2.setRow Z) HZS.out rfl) rfl ⟨rfl, ?_⟩
    refine below_setRowB ?_ (Nat.le_refl _) _
    exact ((below_alloc w (.cells Z 46)).trans (hb1.mono (by simp))).trans ((below_alloc w1 (.cells C 41)).mono (by have := hb1.size; simp at this; omega))
  · have HOR := Lib.hid (fun w => order_any p.length (wideB p) (gridR p) (gridG p) w (planP_of hp).grid.h6 (planP_of hp).grid.w6 (planP_of hp).few (fun i j hi hj => gridG_lt hi hj))
    have HPC := Lib.hid (show planC (planH p) (planW p) (planR p) (planG p) = planC p.length (wideB p) (gridR p) (gridG p) by unfold planH planW planR planG; rw [if_pos hp, if_pos hp, if_pos hp, if_pos hp])
    rw [HPC.out] at HRP HIP HPS HP1 HCS
    have HL := Lib.hid (ord_info HCS.out (ledF p.length (wideB p) (gridR p) (gridG p)))
    have HLS := Lib.hid (ordC_size HCS.out (ledF p.length (wideB p) (gridR p) (gridG p)))
    have HL1 := Lib.hid (ordC_one HP1.out (ledF p.length (wideB p) (gridR p) (gridG p)))
    have HPB := Lib.hid (show plainB p = decide (meetN p 4 = 0) by unfold plainB; rw [hp]; rfl)
    have HY := Lib.hid (fun h => ordP_yes (p := p) h)
    have HNO := Lib.hid fin0
    clear fin0 HPC
    rw [hp] at HRP
    clear hp HMX
    generalize ledF p.length (wideB p) (gridR p) (gridG p) = LF at *
    generalize planC p.length (wideB p) (gridR p) (gridG p) = C at *
    generalize ordC C LF = D at *
    generalize ordC zeroC noF = Z at *
    have hz1 := HeldB.new w 46 Z
    cases hpl : plainB p
    · rw [HNO.out hpl]
      have hx : decide (meetN p 4 = 0) = false := by rw [← HPB.out]; exact hpl
      rw [hx] at HIP
      clear HPB HNO HY hx hpl
      go_enter Try.func36, Try.ntmps36
      go_wp2_with (first
        | (refine wpList_alloc_zero rfl 46 rfl Z HZ0.out ?_)
        | (refine wpList_alloc_zero rfl 41 rfl zeroC zero_plan ?_)
        | (refine wpList_store_new rfl 41 _ _ rfl _ zeroC C rfl rfl rfl HPS.out (by rw [HCS.out]; rfl) HP1.out ?_)
        | (refine wpList_load_row_guard rfl 41 _ rfl w1.heap.size rfl 41 C (0, 0) _ (HeldB.new w1 _ _) Try.underlying41 rfl HPS.out ?_)
        | (refine wpList_build_as rfl 46 _ rfl Z (by simp only [List.map_toArray, List.map_nil]; exact HZB.out) ?_)
        | (refine wpList_store_row rfl 46 _ _ rfl w.heap.size Z rfl rfl 46 Z hz3 HZI.out rfl HZ1.out ?_)
        | (go_at_call 53; refine (HIP.out _).mono ?_; rintro e w2 ⟨rfl, hb2⟩; have hz3 := hz2.below hb2)
        | (go_at_call 52; refine (HRP.out _ (hc.below (below_alloc _ _))).mono ?_; rintro e w1 ⟨rfl, hb1⟩; have hz2 := (hz1.below hb1).alloc (.cells C 41)))
      refine bodyPost_ret (results_ord2 rfl rfl (hz3.setRow Z) HZS.out rfl) rfl ⟨rfl, ?_⟩
      refine below_setRowB ?_ (Nat.le_refl _) _
      have hsz := hb1.size
      simp at hsz
      exact (((below_alloc w (.cells Z 46)).trans (hb1.mono (by simp))).trans ((below_alloc w1 (.cells C 41)).mono (by omega))).trans (hb2.mono (by simp; omega))
    · rw [HY.out hpl]
      have hx : decide (meetN p 4 = 0) = true := by rw [← HPB.out]; exact hpl
      rw [hx] at HIP
      clear HPB HNO HY hx hpl
      go_enter Try.func36, Try.ntmps36
      go_wp2_with (first
        | (refine wpList_alloc_zero rfl 46 rfl Z HZ0.out ?_)
        | (refine wpList_alloc_zero rfl 41 rfl zeroC zero_plan ?_)
        | (refine wpList_store_new rfl 41 _ _ rfl _ zeroC C rfl rfl rfl HPS.out (by rw [HCS.out]; rfl) HP1.out ?_)
        | (refine wpList_load_row rfl 41 _ rfl w1.heap.size rfl 41 C (0, 0) _ bC3 Try.underlying41 rfl HPS.out ?_)
        | (refine wpList_load_row_guard rfl 41 _ rfl w1.heap.size rfl 41 C (0, 0) _ (HeldB.new w1 _ _) Try.underlying41 rfl HPS.out ?_)
        | (refine wpList_store_row rfl 46 _ _ rfl w.heap.size D rfl rfl 46 Z hz4 HL.out (by rw [HZS.out, HLS.out]) HL1.out ?_)
        | (go_at_call 53; refine (HIP.out _).mono ?_; rintro e w2 ⟨rfl, hb2⟩; have hz3 := hz2.below hb2; have bC3 := (HeldB.new w1 41 C).below hb2)
        | (go_at_call 54; refine (HOR.out _).mono ?_; rintro e w3 ⟨rfl, hb3⟩; have hz4 := hz3.below hb3)
        | (go_at_call 52; refine (HRP.out _ (hc.below (below_alloc _ _))).mono ?_; rintro e w1 ⟨rfl, hb1⟩; have hz2 := (hz1.below hb1).alloc (.cells C 41)))
      refine bodyPost_ret (results_ord2 rfl rfl (hz4.setRow D) HLS.out rfl) rfl ⟨rfl, ?_⟩
      refine below_setRowB ?_ (Nat.le_refl _) _
      have hsz := hb1.size
      simp at hsz
      have hs2 := hb2.size
      simp at hs2
      exact ((((below_alloc w (.cells Z 46)).trans (hb1.mono (by simp))).trans ((below_alloc w1 (.cells C 41)).mono (by omega))).trans (hb2.mono (by simp; omega))).trans (hb3.mono (by omega))

def oRm (r : Nat) (room : Int) : Bool := decide (0 ≤ room) && decide (room < (r : Int))
theorem oRm_iff {r : Nat} {room : Int} : oRm r room = true ↔ 0 ≤ room ∧ room < (r : Int) := by unfold oRm; simp
theorem given_oRm {p : List ByteArray} {room : Int} (h : planB p = true) : givenB p room = oRm (gridR p) room := by
  have hr := (planP_of h).rooms
  unfold givenB l6B oRm
  rw [h, Bool.true_and, hr, ← Bool.decide_and]
  congr 1
  rw [eq_iff_iff]
  omega

set_option maxHeartbeats 400000 in
theorem oRm_any (h wd r : Nat) (g : Nat → Nat → Nat) (room : Int) (w : World) :
    Calls Try.prog 55 #[.agg (planC h wd r g), .int .i64 room] w fun e w' => e = .returned (.bool (oRm r room)) ∧ Below w.heap.size w w' := by
  have hP := HeldB.new w 41 (planC h wd r g)
  have c2 := (hP.cell 2).trans (planC_2 _ _ _ _)
  clear hP
  generalize planC h wd r g = C at *
  by_cases h0 : 0 ≤ room
  · by_cases h1 : room < (r : Int)
    · rw [oRm_iff.2 ⟨h0, h1⟩]
      go_enter Try.func55, Try.ntmps55
      go_wp2
      go_ret
      exact ⟨by simp, below_alloc _ _⟩
    · rw [show oRm r room = false by unfold oRm; rw [decide_eq_false h1, Bool.and_false]]
      go_enter Try.func55, Try.ntmps55
      go_wp2
      go_ret
      exact ⟨by simp, below_alloc _ _⟩
  · rw [show oRm r room = false by unfold oRm; rw [decide_eq_false h0, Bool.false_and]]
    have hd0 : decide (0 ≤ room) = false := decide_eq_false h0
    go_enter Try.func55, Try.ntmps55
    go_wp2
    go_ret
    exact ⟨by simp, below_alloc _ _⟩

theorem wpList_load_plan_guard {P : Program} {ops : Array Oper} {rest : List Oper} {op : Oper} {a : Act} {w : World} {Q : Exit → Act → World → Prop} (hw : Region.wanted op (yielded ops a.tmps) = true) (ty : TypeId) (x : Operand) (ho : op.op = .load ty x)
    (b o : Nat) (hx : a.eval x = .pointer (some ⟨b, o, none⟩)) (C : Array Value) (d : TypeDesc) (hc : w.rangeAt b o C.toList)
    (hu : P.underlying ty = some d) (hd : d.isRow = true) (hi : (P.info? ty).map (·.size) = some C.toList.length)
    (h : wpList P ops Q rest (a.put op.dst (.agg C)) w) : wpList P ops Q (op :: rest) a w :=
  wpList_step fun K hK => by
    rw [if_pos hw]
    exact wp_load_mid ty x ho b o hx C.toList d hc hu hd hi (by simpa using hK _ _ h)

/-- whether a room leads to another one, told by numbers of any kind -/
def isLd (r : Nat) (F : Nat → Nat → Nat → Bool) (way : Nat) (a b : Int) : Bool := oRm r a && oRm r b && F way a.toNat b.toNat

set_option maxRecDepth 100000 in
set_option maxHeartbeats 4000000 in
theorem isLed_any (h wd r : Nat) (g : Nat → Nat → Nat) (F : Nat → Nat → Nat → Bool) (way : Nat) (a b : Int) (w : World) (hw : way < 2) (hr : r ≤ 9) :
    Calls Try.prog 37 #[.agg (ordC (planC h wd r g) F), .int .i64 way, .int .i64 a, .int .i64 b] w fun e w' => e = .returned (.bool (isLd r F way a b)) ∧ Below w.heap.size w w' := by
  have HA := Lib.hid (fun w => oRm_any h wd r g a w)
  have HB := Lib.hid (fun w => oRm_any h wd r g b w)
  have HCS := Lib.hid (planC_size h wd r g)
  have HPL := Lib.hid (plan_len HCS.out)
  unfold isLd
  generalize planC h wd r g = C at *
  obtain ⟨D, hD⟩ : ∃ D, D = ordC C F := ⟨_, rfl⟩
  have hB0 : HeldB (w.alloc (.cells D 46)) w.heap.size 46 (ordC C F) := (HeldB.new w 46 D).eq hD
  have hp0 := hB0.planOf
  have hbl := below_alloc w (.cells D 46)
  rw [← hD]
  clear hD
  have hwi : (way : Int) < 2 := by omega
  cases ha : oRm r a
  · rw [ha] at HA
    rw [Bool.false_and, Bool.false_and]
    clear ha hB0
    go_enter Try.func37, Try.ntmps37
    go_wp2_with (first
      | (refine wpList_load_plan rfl 41 _ rfl w.heap.size 0 rfl C _ hp0 Try.underlying41 rfl HPL.out ?_)
      | (go_at_call 55; refine (HA.out _).mono ?_; rintro e w1 ⟨rfl, hb1⟩))
    go_ret
    exact ⟨rfl, hbl.trans (hb1.mono (by simp))⟩
  · rw [ha] at HA
    obtain ⟨ha0, ha1⟩ := oRm_iff.1 ha
    obtain ⟨m, rfl⟩ : ∃ m : Nat, a = (m : Int) := ⟨a.toNat, by omega⟩
    rw [Bool.true_and]
    cases hb : oRm r b
    · rw [hb] at HB
      rw [Bool.false_and]
      clear ha hb
      go_enter Try.func37, Try.ntmps37
      go_wp2_with (first
        | (refine wpList_load_plan_guard (by kernel_rfl) 41 _ rfl w.heap.size 0 rfl C _ hp1 Try.underlying41 rfl HPL.out ?_)
        | (refine wpList_load_plan rfl 41 _ rfl w.heap.size 0 rfl C _ hp0 Try.underlying41 rfl HPL.out ?_)
        | (go_at_call 55; refine (HA.out _).mono ?_; rintro e w1 ⟨rfl, hb1⟩; have hp1 := (hB0.below hb1).planOf; clear HA)
        | (go_at_call 55; refine (HB.out _).mono ?_; rintro e w2 ⟨rfl, hb2⟩))
      go_ret
      have hs1 := hb1.size
      simp at hs1
      exact ⟨rfl, (hbl.trans (hb1.mono (by simp))).trans (hb2.mono (by omega))⟩
    · rw [hb] at HB
      obtain ⟨hb0, hb1'⟩ := oRm_iff.1 hb
      obtain ⟨n, rfl⟩ : ∃ n : Nat, b = (n : Int) := ⟨b.toNat, by omega⟩
      rw [Bool.true_and, Int.toNat_natCast, Int.toNat_natCast]
      have hm9 : m < 9 := by omega
      have hn9 : n < 9 := by omega
      have hm9i : (m : Int) < 9 := by omega
      have hn9i : (n : Int) < 9 := by omega
      clear ha hb
      go_enter Try.func37, Try.ntmps37
      go_wp2_with (first
        | (refine wpList_load_plan_guard (by kernel_rfl) 41 _ rfl w.heap.size 0 rfl C _ hp1 Try.underlying41 rfl HPL.out ?_)
        | (refine wpList_load_plan rfl 41 _ rfl w.heap.size 0 rfl C _ hp0 Try.underlying41 rfl HPL.out ?_)
        | (go_at_call 55; refine (HA.out _).mono ?_; rintro e w1 ⟨rfl, hb1⟩; have hB1 := hB0.below hb1; have hp1 := hB1.planOf; clear HA)
        | (go_at_call 55; refine (HB.out _).mono ?_; rintro e w2 ⟨rfl, hb2⟩; have k2 : w2.cell? ⟨w.heap.size, 39 + way * 81 + m * 9 + n, none⟩ = some (.bool (F way m n)) := (hB1.below hb2).cell _ |>.trans (ordC_at HCS.out F hw hm9 hn9)))
      go_ret
      have hs1 := hb1.size
      simp at hs1
      exact ⟨rfl, (hbl.trans (hb1.mono (by simp))).trans (hb2.mono (by omega))⟩
end Go.Proofs.Yteallnkaapdifaa
