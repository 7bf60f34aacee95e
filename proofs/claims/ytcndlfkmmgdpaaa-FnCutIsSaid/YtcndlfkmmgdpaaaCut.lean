
/-
  Merged texts: Held CutA CutB CutC CutM.
-/
import Derived.Test.YtcndlfkmmgdpaaaRow
import Derived.Test.YtcndlfkmmgdpaaaSpecWX
import Derived.Test.YtcndlfkmmgdpaaaLong
import Derived.Test.YtcndlfkmmgdpaaaList
import Derived.Deep.MidRow
import Derived.OrdersHeld
import Derived.BigQuiet

/-
  A region that draws its order, under a condition on the world that holds throughout: what it reads of held rows may be taken first. (No function of the program is named.)
-/
namespace Go.Proofs.Ytcndlfkmmgdpaaa
open Go.RowKit

theorem wpOp_go {P : Program} {ops : Array Oper} {Q : Exit → Act → World → Prop} {i : Nat} {o : Oper} {K : Act → World → Prop} {a : Act} {w : World} (hi : ops[i]? = some o) (hw : Region.wanted o (yielded ops a.tmps) = true) (h : o.wp P a w K Q) : wpOp P ops Q i K a w := by
  unfold wpOp
  simp only [hi, hw, if_true]
  exact .inl h
/-- a whole row may be read first, under a condition that holds it -/
theorem yieldsIf_load_row {P : Program} {ops : Array Oper} {S : World → Prop} {op : Oper} {a : Act} (hw : Region.wanted op (yielded ops a.tmps) = true) (ty : TypeId) (x : Operand) (ho : op.op = .load ty x)
    (g : Nat) (hx : a.eval x = .pointer (some ⟨g, 0, none⟩)) (t : TypeId) (cs : Array Value) (d : TypeDesc) (hS : ∀ w, S w → HeldB w g t cs)
    (hu : P.underlying ty = some d) (hd : (match d with | .struct _ | .array _ _ => true | _ => false) = true) (hi : (P.info? ty).map (·.size) = some cs.size) : YieldsIf P ops S op (.agg cs) a :=
  .inl ⟨hw, fun w hw' => by
    unfold execOp
    simp only [ho, hx, Instr.loadAt, Instr.sureAddr, Sem.run_bind, Sem.run_pure, Result.andThen_ok, run_loadVar_row w g t ty cs (0, 0) d (hS w hw') hu hd hi]⟩


end Go.Proofs.Ytcndlfkmmgdpaaa

/-
  The model asks walls whether they are cuts. (Walks.)
-/
namespace Go.Proofs.Ytcndlfkmmgdpaaa
open Go.RowKit

/-- a wall that goes from one end of a plan to the other one -/
def wcutB (h wd : Nat) (x : Wl) : Bool := decide (x.long = alongN h wd x.way)

set_option maxRecDepth 100000 in
set_option maxHeartbeats 1000000 in
theorem l3Long_any (ao : Option Addr) (cap : Nat) (p : List ByteArray) (g c : Nat) (x : Wl) (w : World) (h1 : 1 ≤ p.length) (hx : x.way < 2) (hc : CellsAt w ao (p.map Value.string))
    (hr : CellsAt w (some ⟨g, 0, none⟩) ((wlN x).map (Value.int .i64))) :
    Calls Try.prog 101 #[.slice ao p.length cap, .slice (some ⟨g, 0, none⟩) 4 c] w
      fun e w' => e = .returned (.bool (wcutB p.length (wideB p) x)) ∧ Below w.heap.size w w' := by
  obtain ⟨b0, o0, e0, k0⟩ := hr.int 0 (by simp [wlN])
  obtain ⟨b3, o3, e3, k3⟩ := hr.int 3 (by simp [wlN])
  simp only [Option.some.injEq, Addr.mk.injEq, and_true] at e0 e3
  obtain ⟨rfl, rfl⟩ := e0
  obtain ⟨rfl, rfl⟩ := e3
  obtain ⟨bp, op, rfl, kp⟩ := hc.str 0 (by omega)
  have hw0 : (p.getD 0 ByteArray.empty).size = wideB p := rfl
  simp only [wlN, List.getD_cons_zero, List.getD_cons_succ] at k0 k3
  have hi0 : (0 : Int) < (p.length : Int) := by omega
  have kp' : w.cell? ⟨bp, op, none⟩ = some (.string (p.getD 0 ByteArray.empty)) := kp
  rcases (show x.way = 0 ∨ x.way = 1 by omega) with hw | hw
  · rw [hw] at k0
    by_cases hl : x.long = p.length
    · have HC := Lib.hid (show wcutB p.length (wideB p) x = true by unfold wcutB alongN; rw [if_pos hw]; exact decide_eq_true hl)
      have hd : ((x.long : Int) == (p.length : Int)) = true := by simp [hl]
      clear hl hw hw0 hx
      generalize p.getD 0 ByteArray.empty = s0 at *
      go_enter Try.func101, Try.ntmps101
      go_wp2
      go_quiet (fail)
      go_wp2
      go_ret
      exact ⟨by rw [HC.out]; rfl, below_drewN _ _ _⟩
    · have HC := Lib.hid (show wcutB p.length (wideB p) x = false by unfold wcutB alongN; rw [if_pos hw]; exact decide_eq_false hl)
      have hd : ((x.long : Int) == (p.length : Int)) = false := by rw [beq_eq_false_iff_ne]; omega
      clear hl hw hw0 hx
      generalize p.getD 0 ByteArray.empty = s0 at *
      go_enter Try.func101, Try.ntmps101
      go_wp2
      go_quiet (fail)
      go_wp2
      go_ret
      exact ⟨by rw [HC.out]; rfl, below_drewN _ _ _⟩
  · rw [hw] at k0
    by_cases hl : x.long = wideB p
    · have HC := Lib.hid (show wcutB p.length (wideB p) x = true by unfold wcutB alongN; rw [if_neg (by omega)]; exact decide_eq_true hl)
      rw [← hw0] at hl
      have hd : ((x.long : Int) == ((p.getD 0 ByteArray.empty).size : Int)) = true := by simp [hl]
      clear hl hw hw0 hx
      generalize p.getD 0 ByteArray.empty = s0 at *
      go_enter Try.func101, Try.ntmps101
      go_wp2
      go_quiet (fail)
      go_wp2
      go_ret
      exact ⟨by rw [HC.out]; rfl, below_drewN _ _ _⟩
    · have HC := Lib.hid (show wcutB p.length (wideB p) x = false by unfold wcutB alongN; rw [if_neg (by omega)]; exact decide_eq_false hl)
      rw [← hw0] at hl
      have hd : ((x.long : Int) == ((p.getD 0 ByteArray.empty).size : Int)) = false := by rw [beq_eq_false_iff_ne]; omega
      clear hl hw hw0 hx
      generalize p.getD 0 ByteArray.empty = s0 at *
      go_enter Try.func101, Try.ntmps101
      go_wp2
      go_quiet (fail)
      go_wp2
      go_ret
      exact ⟨by rw [HC.out]; rfl, below_drewN _ _ _⟩

end Go.Proofs.Ytcndlfkmmgdpaaa

/-
  How many cuts there are, and the first one: the model's answers. (Walks.)
-/
namespace Go.Proofs.Ytcndlfkmmgdpaaa
open Go.RowKit

def isCutP (p : List ByteArray) (x : Wl) : Bool := wcutB (planH p) (planW p) x
def cntC (f : Wl → Bool) (L : List Wl) : Nat := (L.filter f).length
theorem cntC_snoc (f : Wl → Bool) (L : List Wl) (x : Wl) : cntC f (L ++ [x]) = cntC f L + if f x = true then 1 else 0 := by
  unfold cntC
  rw [List.filter_append, List.length_append]
  by_cases h : f x = true <;> simp [h]
theorem cntC_le (f : Wl → Bool) (L : List Wl) : cntC f L ≤ L.length := List.length_filter_le _ _
theorem cntC_yes {f : Wl → Bool} {L : List Wl} {i : Nat} (hi : i < L.length) (h : f (L.getD i zeroWl) = true) : cntC f (L.take (i + 1)) = cntC f (L.take i) + 1 := by
  rw [take_snoc L i zeroWl hi, cntC_snoc, if_pos h]
theorem cntC_no {f : Wl → Bool} {L : List Wl} {i : Nat} (hi : i < L.length) (h : f (L.getD i zeroWl) = false) : cntC f (L.take (i + 1)) = cntC f (L.take i) := by
  rw [take_snoc L i zeroWl hi, cntC_snoc, if_neg (by rw [h]; decide)]; rfl
def cutN (p : List ByteArray) : Nat := cntC (isCutP p) (wallsP p)
def cutOk (p : List ByteArray) : Bool := (wallsP p).any (isCutP p)
def cutI (p : List ByteArray) : Nat := if cutOk p = true then (wallsP p).findIdx (isCutP p) else 0
theorem first_yes {f : Wl → Bool} {L : List Wl} {i : Nat} (hi : i < L.length) (h : f (L.getD i zeroWl) = true) (hno : ∀ j, j < i → f (L.getD j zeroWl) = false) : L.any f = true ∧ L.findIdx f = i := by
  have hg : ∀ j (hj : j < L.length), L.getD j zeroWl = L[j] := fun j hj => by simp [hj]
  refine ⟨List.any_eq_true.2 ⟨L.getD i zeroWl, getD_mem zeroWl hi, h⟩, ?_⟩
  rw [List.findIdx_eq hi]
  refine ⟨by rw [← hg i hi]; exact h, fun j hj => ?_⟩
  have := hno j hj
  rw [hg j (by omega)] at this
  simp [this]
theorem first_no {f : Wl → Bool} {L : List Wl} (hno : ∀ j, j < L.length → f (L.getD j zeroWl) = false) : L.any f = false := by
  rw [List.any_eq_false]
  intro x hx
  obtain ⟨j, hj, rfl⟩ := List.mem_iff_getElem.1 hx
  have := hno j hj
  simp [hj] at this
  simp [this]
theorem cut_no {p : List ByteArray} (h : planB p = false) : cutN p = 0 ∧ cutOk p = false ∧ cutI p = 0 := by
  have : cutOk p = false := by unfold cutOk; rw [wallsP_no h]; rfl
  refine ⟨by unfold cutN; rw [wallsP_no h]; rfl, this, by unfold cutI; rw [this]; rfl⟩

end Go.Proofs.Ytcndlfkmmgdpaaa

/-
  How many cuts there are, and the first one: the program's answers. (Walks.)
-/
namespace Go.Proofs.Ytcndlfkmmgdpaaa
open Go.RowKit

set_option maxRecDepth 100000 in
set_option maxHeartbeats 1000000 in
theorem isCut_any (h wd r : Nat) (g : Nat → Nat → Nat) (x : Wl) (w : World) :
    Calls Try.prog 50 #[.agg (planC h wd r g), .agg (wlC x)] w
      fun e w' => e = .returned (.bool (wcutB h wd x)) ∧ Below w.heap.size w w' := by
  have HME := Lib.hid (fun w => measure_any h wd r g x.way w)
  have HCS := Lib.hid (planC_size h wd r g)
  have HB := Lib.hid (show (((x.long : Nat) : Int) == ((alongN h wd x.way : Nat) : Int)) = wcutB h wd x by
    unfold wcutB; rw [Bool.eq_iff_iff, beq_iff_eq, decide_eq_true_eq]; omega)
  generalize planC h wd r g = C at *
  generalize alongN h wd x.way = al at *
  generalize acrossN h wd x.way = ac at *
  have hsz : (Try.prog.info? 48).map (·.size) = some C.size := by rw [HCS.out]; kernel_rfl
  have HSZ := Lib.hid hsz; clear hsz
  have bP : HeldB ((w.alloc (.cells C 48)).alloc (.cells (wlC x) 59)) w.heap.size 48 C := (HeldB.new w _ _).alloc _
  have bX : HeldB ((w.alloc (.cells C 48)).alloc (.cells (wlC x) 59)) (w.heap.size + 1) 59 (wlC x) := by
    have := HeldB.new (w.alloc (.cells C 48)) 59 (wlC x)
    rwa [World.size_alloc] at this
  have x0 := (bX.cell 0).trans (show (wlC x)[0]? = some (.int .i64 (x.way : Nat)) from rfl)
  have hB0 : Below w.heap.size w ((w.alloc (.cells C 48)).alloc (.cells (wlC x) 59)) := ((Below.refl _ w).alloc (Nat.le_refl _) _).alloc (by simp) _
  go_enter Try.func50, Try.ntmps50
  go_wp2_with (first
    | (refine wpList_load_row rfl 48 _ rfl w.heap.size rfl 48 C (0, 0) _ bP Try.underlying48 rfl HSZ.out ?_)
    | (go_at_call 85; refine (HME.out _).mono ?_; rintro e w1 ⟨rfl, hb1⟩; have x3 := ((bX.below hb1).cell 3).trans (show (wlC x)[3]? = some (.int .i64 (x.long : Nat)) from rfl)))
  go_ret
  exact ⟨ret_bool HB.out, below_step hB0 hB0.size hb1⟩

/-- the place of the first wall that a function tells, or -1 -/
def firstI (f : Wl → Bool) (L : List Wl) : Int := if L.any f = true then (L.findIdx f : Nat) else -1

theorem cutMany_prog (p : List ByteArray) : cutN p = cntC (wcutB (planH p) (planW p)) (wallsP p) := rfl

set_option maxRecDepth 100000 in
set_option maxHeartbeats 2000000 in
theorem implCutMany_any (ao : Option Addr) (cap : Nat) (p : List ByteArray) (w : World) (hl : p.length ≤ 1048576) (hs : ∀ s ∈ p, s.size ≤ 1048576) (hc : CellsAt w ao (p.map Value.string)) :
    Calls Try.prog 26 #[.slice ao p.length cap] w fun e w' => e = .returned (.tuple #[.int .i64 (cutN p : Nat), .bool (planB p)]) ∧ Below w.heap.size w w' := by
  have hle := wallsP_len p
  have HRP := Lib.hid (fun w hc => by have := readPlan_any ao cap p w hl hs hc; rw [readC_plan, readOk_eq] at this; exact this)
  have HWA := Lib.hid (fun w => walls_any (planH p) (planW p) (planR p) (planG p) w (planH_le p) (planW_le p))
  have HCU := Lib.hid (fun x w => isCut_any (planH p) (planW p) (planR p) (planG p) x w)
  have HPS := Lib.hid (plan_size (planH p) (planW p) (planR p) (planG p))
  have HP1 := Lib.hid (planC_one (planH p) (planW p) (planR p) (planG p))
  have HCS := Lib.hid (planC_size (planH p) (planW p) (planR p) (planG p))
  change Hid (∀ w, Calls _ _ _ w fun e w' => ∃ ro rc, e = .returned (.slice ro (wallsP p).length rc) ∧ w'.ownsRow w.heap.size 59 4 (.slice ro (wallsP p).length rc) (wallsP p).length (wlsC (wallsP p)) ∧ Below w.heap.size w w') at HWA
  rw [cutMany_prog]
  generalize wallsP p = L at *
  generalize wcutB (planH p) (planW p) = f at *
  generalize planC (planH p) (planW p) (planR p) (planG p) = C at *
  generalize planB p = pb at *
  go_enter Try.func26, Try.ntmps26
  go_wp2_with (first
    | (refine wpList_alloc_zero rfl 48 rfl zeroC zero_plan ?_)
    | (refine wpList_store_new rfl 48 _ _ rfl _ zeroC C rfl rfl rfl HPS.out (by rw [HCS.out]; rfl) HP1.out ?_)
    | (refine wpList_load_row rfl 48 _ rfl w1.heap.size rfl 48 C (0, 0) _ (HeldB.new w1 _ _) Try.underlying48 rfl HPS.out ?_)
    | (go_at_call 44; refine (HRP.out _ hc).mono ?_; rintro e w1 ⟨rfl, hb1⟩)
    | (go_at_call 49; refine (HWA.out _).mono ?_; rintro e w2 ⟨ro, rc, rfl, hown, hb2⟩))
  have bP2 := (HeldB.new w1 48 C).below hb2
  have hB2 : Below w.heap.size w w2 := below_step hb1 hb1.size ((below_alloc w1 (.cells C 48)).trans (hb2.mono (by simp)))
  have HCE := Lib.hid (ownsK_cells hown)
  have hw1s := hb1.size
  have hs2 : w1.heap.size + 1 ≤ w2.heap.size := by have := hb2.size; simp at this; omega
  clear hown hb2
  obtain ⟨W2, hW2⟩ : ∃ W2, W2 = w2 := ⟨_, rfl⟩
  have BP := Lib.hid bP2
  clear bP2
  go_loopw [6, 17] (fun va vi wr => ∃ i : Nat, i ≤ L.length ∧ vi = .int .i64 i ∧ va = .int .i64 (cntC f (L.take i) : Nat) ∧ Below w2.heap.size w2 wr) (fun _ vi _ => L.length - (intOf vi).toNat)
  case atStart => exact ⟨0, Nat.zero_le _, rfl, rfl, Below.refl _ _⟩
  case round =>
    obtain ⟨i, hi, rfl, rfl, hq⟩ := hrel
    have hct : cntC f (L.take i) ≤ 72 := Nat.le_trans (cntC_le f _) (by rw [List.length_take]; omega)
    by_cases hlt : i < L.length
    · have hlt' : decide ((i : Int) < (L.length : Int)) = true := by rw [decide_eq_true_eq]; omega
      obtain ⟨b, off, rfl, hrg⟩ := wls_range (HCE.out.below hq) hlt
      have HY := Lib.hid (@cntC_yes f L i hlt)
      have HN := Lib.hid (@cntC_no f L i hlt)
      generalize L.getD i zeroWl = X at *
      generalize hcN : cntC f (L.take i) = n at *
      have HCN := Lib.hid hcN; clear hcN
      have bP := (BP.out.below hq).alloc (.cells (wlC X) 59)
      have bX := HeldB.new wr 59 (wlC X)
      have hqa : Below w2.heap.size w2 (wr.alloc (.cells (wlC X) 59)) := hq.alloc hq.size _
      cases hf : f X
      · have HE := Lib.hid (HN.out hf)
        go_wp2_with (first
          | (refine wpList_load_wl rfl 59 _ rfl b (off + i * 4) rfl X _ hrg Try.underlying59 rfl Try.sizeWl ?_)
          | (refine wpList_store_new rfl 59 _ _ rfl _ (wlC zeroWl) (wlC X) rfl rfl rfl (wl_size _) rfl (wlC_one _) ?_)
          | (refine wpList_load_row rfl 48 _ rfl w1.heap.size rfl 48 C (0, 0) _ bP Try.underlying48 rfl HPS.out ?_)
          | (refine wpList_load_row rfl 59 _ rfl wr.heap.size rfl 59 (wlC X) (0, 0) _ bX Try.underlying59 rfl (wl_size _) ?_)
          | (go_at_call 50; refine (HCU.out _ _).mono ?_; rw [hf]; rintro e w3 ⟨rfl, hb3⟩))
        go_roundw
        case rel => exact ⟨i + 1, by omega, by go_num, by rw [HE.out], below_step hqa hqa.size hb3⟩
        case measure => simp [intOf]; omega
      · have HE := Lib.hid (HY.out hf)
        go_wp2_with (first
          | (refine wpList_load_wl rfl 59 _ rfl b (off + i * 4) rfl X _ hrg Try.underlying59 rfl Try.sizeWl ?_)
          | (refine wpList_store_new rfl 59 _ _ rfl _ (wlC zeroWl) (wlC X) rfl rfl rfl (wl_size _) rfl (wlC_one _) ?_)
          | (refine wpList_load_row rfl 48 _ rfl w1.heap.size rfl 48 C (0, 0) _ bP Try.underlying48 rfl HPS.out ?_)
          | (refine wpList_load_row rfl 59 _ rfl wr.heap.size rfl 59 (wlC X) (0, 0) _ bX Try.underlying59 rfl (wl_size _) ?_)
          | (go_at_call 50; refine (HCU.out _ _).mono ?_; rw [hf]; rintro e w3 ⟨rfl, hb3⟩))
        go_roundw
        case rel => exact ⟨i + 1, by omega, by go_num, by rw [HE.out]; go_num, below_step hqa hqa.size hb3⟩
        case measure => simp [intOf]; omega
    · obtain rfl : i = L.length := by omega
      have hlt' : decide ((L.length : Int) < (L.length : Int)) = false := by rw [decide_eq_false_iff_not]; omega
      rw [List.take_length] at *
      go_wp2
      go_ret2
      exact ⟨rfl, below_step hB2 hB2.size hq⟩

theorem firstI_lt (f : Wl → Bool) (L : List Wl) : decide (firstI f L < 0) = !(L.any f) := by
  unfold firstI
  cases L.any f <;> simp

end Go.Proofs.Ytcndlfkmmgdpaaa

/-
  The first cut goes from end to end. (Mathematics.)
-/
namespace Go.Proofs.Ytcndlfkmmgdpaaa
open Go.RowKit

theorem cut_math {p : List ByteArray} (h : cutOk p = true) : planB p = true ∧ cutI p < (listOr p).length ∧ 1 ≤ cutN p ∧ cutN p ≤ 72 ∧
    ∃ X : Wl, (listOr p).getD (cutI p) [] = wlN X ∧ X.way < 2 ∧ X.long = (if X.way = 0 then p.length else wideB p) := by
  have hp : planB p = true := by
    cases hp : planB p
    · rw [(cut_no hp).2.1] at h; cases h
    · rfl
  have h0 : (wallsP p).any (isCutP p) = true := h
  have hi : cutI p < (wallsP p).length := by
    unfold cutI
    rw [if_pos h, List.findIdx_lt_length]
    obtain ⟨x, hx, hy⟩ := List.any_eq_true.1 h0
    exact ⟨x, hx, hy⟩
  have hf : isCutP p ((wallsP p).getD (cutI p) zeroWl) = true := by
    have := List.findIdx_getElem (p := isCutP p) (xs := wallsP p) (w := by unfold cutI at hi; rw [if_pos h] at hi; exact hi)
    rw [List.getD_eq_getElem?_getD, List.getElem?_eq_getElem hi, Option.getD_some]
    unfold cutI
    simp only [if_pos h]
    exact this
  refine ⟨hp, by unfold listOr; rw [List.length_map]; exact hi, ?_, ?_, (wallsP p).getD (cutI p) zeroWl, ?_, ?_, ?_⟩
  · unfold cutN cntC
    have : (wallsP p).getD (cutI p) zeroWl ∈ (wallsP p).filter (isCutP p) := List.mem_filter.2 ⟨getD_mem zeroWl hi, hf⟩
    exact List.length_pos_of_mem this
  · exact Nat.le_trans (cntC_le _ _) (wallsP_len p)
  · unfold listOr; exact wlN_getD hi
  · exact (wallsG_mem (getD_mem zeroWl hi)).1
  · have h2 : ((wallsP p).getD (cutI p) zeroWl).long = alongN (planH p) (planW p) ((wallsP p).getD (cutI p) zeroWl).way := of_decide_eq_true hf
    rw [h2]
    unfold alongN planH planW
    rw [if_pos hp, if_pos hp]

end Go.Proofs.Ytcndlfkmmgdpaaa
