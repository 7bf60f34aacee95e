
/-
  A list's rooms, linked, if it is a plan and has the rooms that are asked for. (Walks.)
-/
import Derived.Test.YtjcbfijliacicaaChamB
namespace Go.Proofs.Ytjcbfijliacicaa
open Go.RowKit

/-- whether a number is that of one of so many rooms -/
def isRm (r : Nat) (room : Int) : Bool := decide (0 ≤ room) && decide (room < (r : Int))
theorem isRm_iff {r : Nat} {room : Int} : isRm r room = true ↔ 0 ≤ room ∧ room < (r : Int) := by unfold isRm; simp

set_option maxHeartbeats 400000 in
theorem isRm_any (h wd r : Nat) (g : Nat → Nat → Nat) (room : Int) (w : World) :
    Calls Try.prog 62 #[.agg (planC h wd r g), .int .i64 room] w fun e w' => e = .returned (.bool (isRm r room)) ∧ Below w.heap.size w w' := by
  have hP := HeldB.new w 58 (planC h wd r g)
  have c2 := (hP.cell 2).trans (planC_2 _ _ _ _)
  clear hP
  generalize planC h wd r g = C at *
  by_cases h0 : 0 ≤ room
  · by_cases h1 : room < (r : Int)
    · rw [isRm_iff.2 ⟨h0, h1⟩]
      go_enter Try.func62, Try.ntmps62
      go_wp2
      go_ret
      exact ⟨by simp, below_alloc _ _⟩
    · rw [show isRm r room = false by unfold isRm; rw [decide_eq_false h1, Bool.and_false]]
      go_enter Try.func62, Try.ntmps62
      go_wp2
      go_ret
      exact ⟨by simp, below_alloc _ _⟩
  · rw [show isRm r room = false by unfold isRm; rw [decide_eq_false h0, Bool.false_and]]
    have hd0 : decide (0 ≤ room) = false := decide_eq_false h0
    go_enter Try.func62, Try.ntmps62
    go_wp2
    go_ret
    exact ⟨by simp, below_alloc _ _⟩

set_option maxRecDepth 100000 in
set_option maxHeartbeats 1000000 in
theorem noRm_any (B h wd r : Nat) (g : Nat → Nat → Nat) (room : Int) (w : World) (hB : HeldB w B 58 (planC h wd r g)) :
    Calls Try.prog 80 #[.int .i64 room, .pointer (some ⟨B, 0, none⟩)] w fun e w' => e = .returned (.bool (!isRm r room)) ∧ Below w.heap.size w w' := by
  have HR := Lib.hid (fun w => isRm_any h wd r g room w)
  have HCS := Lib.hid (planC_size h wd r g)
  generalize planC h wd r g = C at *
  have hsz : (Try.prog.info? 58).map (·.size) = some C.size := by rw [HCS.out]; kernel_rfl
  have HSZ := Lib.hid hsz; clear hsz
  go_enter Try.func80, Try.ntmps80
  go_wp2_with (first
    | (refine wpList_load_row rfl 58 _ rfl B rfl 58 C (0, 0) _ hB Try.underlying58 rfl HSZ.out ?_)
    | (go_at_call 62; refine (HR.out _).mono ?_; rintro e w1 ⟨rfl, hb1⟩))
  go_ret
  exact ⟨rfl, hb1⟩

set_option maxRecDepth 100000 in
set_option maxHeartbeats 2000000 in
theorem indexRm_any (B h wd r : Nat) (g : Nat → Nat → Nat) (ro : Option Addr) (rc : Nat) (A : List Int) (w : World) (hl : A.length ≤ 1000) (hc : CellsAt w ro (A.map (Value.int .i64))) (hB : HeldB w B 58 (planC h wd r g)) :
    Calls Try.prog 95 #[.slice ro A.length rc, .func (.func 80) #[] #[.pointer (some ⟨B, 0, none⟩)]] w
      fun e w' => (∃ v : Int, e = .returned (.int .i64 v) ∧ decide (0 ≤ v) = A.any fun a => !isRm r a) ∧ Below w.heap.size w w' := by
  have HCU := Lib.hid (fun room w hB => noRm_any B h wd r g room w hB)
  have eg := enters_of Try.func80 (by kernel_rfl) rfl
  have HC := Lib.hid hc
  have HB := Lib.hid hB
  have HAN := Lib.hid (show ∀ i, i < A.length → (!isRm r (A.getD i 0)) = true → (A.any fun a => !isRm r a) = true from fun i hi h => List.any_eq_true.2 ⟨_, getD_mem 0 hi, h⟩)
  have HAF := Lib.hid (show (∀ j, j < A.length → (!isRm r (A.getD j 0)) = false) → (A.any fun a => !isRm r a) = false from fun h => by
    rw [List.any_eq_false]
    intro x hx
    obtain ⟨j, hj, rfl⟩ := List.mem_iff_getElem.1 hx
    have := h j hj
    rw [List.getD_eq_getElem?_getD, List.getElem?_eq_getElem hj, Option.getD_some] at this
    rw [this]; decide)
  generalize (A.any fun a => !isRm r a) = R at *
  generalize hf : (fun a => !isRm r a) = f at *
  have HCU2 := Lib.hid (fun room w hB => show Calls Try.prog 80 #[.int .i64 room, .pointer (some ⟨B, 0, none⟩)] w fun e w' => e = .returned (.bool (f room)) ∧ Below w.heap.size w w' by rw [← hf]; exact HCU.out room w hB)
  have HAN2 := Lib.hid (show ∀ i, i < A.length → f (A.getD i 0) = true → R = true by rw [← hf]; exact HAN.out)
  have HAF2 := Lib.hid (show (∀ j, j < A.length → f (A.getD j 0) = false) → R = false by rw [← hf]; exact HAF.out)
  clear HCU HAN HAF hf hc hB
  generalize planC h wd r g = C at *
  go_enter Try.func95, Try.ntmps95
  go_wp2
  go_loopw [8] (fun vi wr => ∃ i : Nat, i ≤ A.length ∧ vi = .int .i64 i ∧ Hid (∀ j, j < i → f (A.getD j 0) = false) ∧ Below w.heap.size w wr) (fun vi _ => A.length - (intOf vi).toNat)
  case atStart => exact ⟨0, Nat.zero_le _, rfl, Lib.hid (fun j hj => absurd hj (Nat.not_lt_zero _)), Below.refl _ _⟩
  case round =>
    obtain ⟨i, hi, rfl, HF, hq⟩ := hrel
    by_cases hlt : i < A.length
    · have hlt' : decide ((i : Int) < (A.length : Int)) = true := by rw [decide_eq_true_eq]; omega
      obtain ⟨b, off, rfl, hck⟩ := (HC.out.below hq).int i hlt
      have hBq := HB.out.below hq
      have HY := Lib.hid (HAN2.out i hlt)
      have HNX := Lib.hid (show f (A.getD i 0) = false → ∀ j, j < i + 1 → f (A.getD j 0) = false from fun h j hj => by
        rcases Nat.lt_succ_iff_lt_or_eq.1 hj with h' | rfl
        · exact HF.out j h'
        · exact h)
      generalize A.getD i 0 = X at *
      cases hfx : f X
      · have HE := Lib.hid (HNX.out hfx)
        go_wp2_with (go_at_call 80; refine (HCU2.out _ _ hBq).mono ?_; rw [hfx]; rintro e w3 ⟨rfl, hb3⟩)
        go_roundw
        case rel => exact ⟨i + 1, by omega, by go_num, HE, below_step hq hq.size hb3⟩
        case measure => simp [intOf]; omega
      · have HE := Lib.hid (HY.out hfx)
        go_wp2_with (go_at_call 80; refine (HCU2.out _ _ hBq).mono ?_; rw [hfx]; rintro e w3 ⟨rfl, hb3⟩)
        go_ret
        exact ⟨⟨_, rfl, by rw [HE.out]; simp⟩, below_step hq hq.size hb3⟩
    · obtain rfl : i = A.length := by omega
      have hlt' : decide ((A.length : Int) < (A.length : Int)) = false := by rw [decide_eq_false_iff_not]; omega
      go_wp2
      go_ret
      exact ⟨⟨_, rfl, by rw [HAF2.out HF.out]; rfl⟩, hq⟩

set_option maxRecDepth 100000 in
set_option maxHeartbeats 1000000 in
theorem containsRm_any (B h wd r : Nat) (g : Nat → Nat → Nat) (ro : Option Addr) (rc : Nat) (A : List Int) (w : World) (hl : A.length ≤ 1000) (hc : CellsAt w ro (A.map (Value.int .i64))) (hB : HeldB w B 58 (planC h wd r g)) :
    Calls Try.prog 79 #[.slice ro A.length rc, .func (.func 80) #[] #[.pointer (some ⟨B, 0, none⟩)]] w
      fun e w' => e = .returned (.bool (A.any fun a => !isRm r a)) ∧ Below w.heap.size w w' := by
  have HI := Lib.hid (indexRm_any B h wd r g ro rc A w hl hc hB)
  generalize (A.any fun a => !isRm r a) = R at *
  clear hB hc
  go_enter Try.func79, Try.ntmps79
  go_wp2_with (go_at_call 95; refine (HI.out).mono ?_; rintro e w1 ⟨⟨v, rfl, hv⟩, hb1⟩)
  go_ret
  exact ⟨by rw [← hv]; rfl, hb1⟩

/-- a plan's rooms are linked so -/
def nbF (p : List ByteArray) : Nat → Nat → Nat := cntE (edgesL (gridG p) (wallsG p.length (wideB p) (gridG p)))
theorem nbF_eq {p : List ByteArray} (h : planB p = true) {a b : Nat} (hab : a ≠ b) : nbF p a b = besN p (a : Int) (b : Int) := cntE_walls h hab

/-- whether there are a plan and all rooms that are asked for -/
def askB (p : List ByteArray) (A : List Int) : Bool := planB p && !(A.any fun a => !isRm (gridR p) a)
/-- what linked rooms are in memory -/
def Linked (w w' : World) (p : List ByteArray) (Rb Q : Nat) : Prop :=
  CellsAt w' (some ⟨Rb, 0, none⟩) (ptrs Q (gridR p)) ∧ (∃ so sc, ChB w' Q (gridR p) (nbF p) (fun k => k < Q) so sc) ∧ w.heap.size ≤ Q ∧ Q + gridR p ≤ w'.heap.size ∧ Below w.heap.size w w'

set_option maxRecDepth 100000 in
set_option maxHeartbeats 2000000 in
theorem readChambers_no (ao : Option Addr) (cap : Nat) (p : List ByteArray) (so : Option Addr) (sc : Nat) (A : List Int) (w : World) (hl : p.length ≤ 1048576) (hs : ∀ s ∈ p, s.size ≤ 1048576) (hc : CellsAt w ao (p.map Value.string)) (hA : A.length ≤ 1000) (ha : CellsAt w so (A.map (Value.int .i64)))
    (hno : askB p A = false) :
    Calls Try.prog 52 #[.slice ao p.length cap, .slice so A.length sc] w
      fun e w' => e = .returned (.tuple #[.slice none 0 0, .bool false]) ∧ Below w.heap.size w w' := by
  have HRP := Lib.hid (show Calls Try.prog 44 #[.slice ao p.length cap] w _ by have := readPlan_any ao cap p w hl hs hc; rw [readC_plan, readOk_eq] at this; exact this)
  have HPS := Lib.hid (plan_size (planH p) (planW p) (planR p) (planG p))
  have HP1 := Lib.hid (planC_one (planH p) (planW p) (planR p) (planG p))
  have HCS := Lib.hid (planC_size (planH p) (planW p) (planR p) (planG p))
  cases hp : planB p
  · rw [hp] at HRP
    clear hno
    generalize planC (planH p) (planW p) (planR p) (planG p) = C at *
    go_enter Try.func52, Try.ntmps52
    go_wp2_with (first
      | (refine wpList_alloc_zero rfl 58 rfl zeroC zero_plan ?_)
      | (refine wpList_store_new rfl 58 _ _ rfl _ zeroC C rfl rfl rfl HPS.out (by rw [HCS.out]; rfl) HP1.out ?_)
      | (go_at_call 44; refine (HRP.out).mono ?_; rintro e w1 ⟨rfl, hb1⟩))
    go_ret2
    exact ⟨rfl, hb1.alloc hb1.size _⟩
  · rw [hp] at HRP
    have hR : (A.any fun a => !isRm (planR p) a) = true := by
      unfold askB at hno
      rw [hp, Bool.true_and] at hno
      unfold planR; rw [if_pos hp]; simpa using hno
    have HCO := Lib.hid (fun (W : World) (B : Nat) (hB : HeldB W B 58 (planC (planH p) (planW p) (planR p) (planG p))) (hb : Below w.heap.size w W) => containsRm_any B (planH p) (planW p) (planR p) (planG p) so sc A W hA (ha.below hb) hB)
    rw [hR] at HCO
    clear hno hR
    generalize planC (planH p) (planW p) (planR p) (planG p) = C at *
    go_enter Try.func52, Try.ntmps52
    go_wp2_with (first
      | (refine wpList_alloc_zero rfl 58 rfl zeroC zero_plan ?_)
      | (refine wpList_store_new rfl 58 _ _ rfl _ zeroC C rfl rfl rfl HPS.out (by rw [HCS.out]; rfl) HP1.out ?_)
      | (go_at_call 44; refine (HRP.out).mono ?_; rintro e w1 ⟨rfl, hb1⟩; have hb2 : Below w.heap.size w (w1.alloc (.cells C 58)) := hb1.alloc hb1.size _; have bP := HeldB.new w1 58 C)
      | (go_at_call 79; refine (HCO.out _ _ bP hb2).mono ?_; rintro e w3 ⟨rfl, hb3⟩))
    go_ret2
    exact ⟨rfl, below_step hb2 hb2.size hb3⟩

set_option maxRecDepth 100000 in
set_option maxHeartbeats 2000000 in
theorem readChambers_yes (ao : Option Addr) (cap : Nat) (p : List ByteArray) (so : Option Addr) (sc : Nat) (A : List Int) (w : World) (hl : p.length ≤ 1048576) (hs : ∀ s ∈ p, s.size ≤ 1048576) (hc : CellsAt w ao (p.map Value.string)) (hA : A.length ≤ 1000) (ha : CellsAt w so (A.map (Value.int .i64)))
    (hyes : askB p A = true) :
    Calls Try.prog 52 #[.slice ao p.length cap, .slice so A.length sc] w
      fun e w' => ∃ Rb c Q, e = .returned (.tuple #[.slice (some ⟨Rb, 0, none⟩) (gridR p) c, .bool true]) ∧ Linked w w' p Rb Q := by
  have HRP := Lib.hid (show Calls Try.prog 44 #[.slice ao p.length cap] w _ by have := readPlan_any ao cap p w hl hs hc; rw [readC_plan, readOk_eq] at this; exact this)
  have HPS := Lib.hid (plan_size (planH p) (planW p) (planR p) (planG p))
  have HP1 := Lib.hid (planC_one (planH p) (planW p) (planR p) (planG p))
  have HCS := Lib.hid (planC_size (planH p) (planW p) (planR p) (planG p))
  unfold askB at hyes
  rw [Bool.and_eq_true] at hyes
  obtain ⟨hp, hR⟩ := hyes
  have hR : (A.any fun a => !isRm (planR p) a) = false := by unfold planR; rw [if_pos hp]; simpa using hR
  rw [hp] at HRP
  have HCO := Lib.hid (fun (W : World) (B : Nat) (hB : HeldB W B 58 (planC (planH p) (planW p) (planR p) (planG p))) (hb : Below w.heap.size w W) => containsRm_any B (planH p) (planW p) (planR p) (planG p) so sc A W hA (ha.below hb) hB)
  rw [hR] at HCO
  have hP := planP_of hp
  have h6 := hP.grid.h6; have w6 := hP.grid.w6
  have e1 : planH p = p.length := by unfold planH; rw [if_pos hp]
  have e2 : planW p = wideB p := by unfold planW; rw [if_pos hp]
  have e3 : planR p = gridR p := by unfold planR; rw [if_pos hp]
  have e4 : planG p = gridG p := by unfold planG; rw [if_pos hp]
  rw [e1, e2, e3, e4] at HRP HPS HP1 HCS HCO
  have HCH := Lib.hid (fun (W : World) => chambers_any p.length (wideB p) (gridR p) (gridG p) W h6 w6 hP.few (fun i j hi hj => by rw [← hP.mark i j hi hj]; exact hP.lt hi hj))
  clear e1 e2 e3 e4 h6 w6 hP
  unfold Linked nbF
  generalize planC p.length (wideB p) (gridR p) (gridG p) = C at *
  generalize cntE (edgesL (gridG p) (wallsG p.length (wideB p) (gridG p))) = F at *
  generalize gridR p = n at *
  clear hR
  go_enter Try.func52, Try.ntmps52
  go_wp2_with (first
    | (refine wpList_alloc_zero rfl 58 rfl zeroC zero_plan ?_)
    | (refine wpList_store_new rfl 58 _ _ rfl _ zeroC C rfl rfl rfl HPS.out (by rw [HCS.out]; rfl) HP1.out ?_)
    | (refine wpList_load_row rfl 58 _ rfl w1.heap.size rfl 58 C (0, 0) _ bP3 Try.underlying58 rfl HPS.out ?_)
    | (go_at_call 44; refine (HRP.out).mono ?_; rintro e w1 ⟨rfl, hb1⟩; have hb2 : Below w.heap.size w (w1.alloc (.cells C 58)) := hb1.alloc hb1.size _; have bP := HeldB.new w1 58 C)
    | (go_at_call 79; refine (HCO.out _ _ bP hb2).mono ?_; rintro e w3 ⟨rfl, hb3⟩; have bP3 := bP.below hb3; have hb4 := below_step hb2 hb2.size hb3)
    | (go_at_call 81; refine (HCH.out _).mono ?_; rintro e w5 ⟨Rb, c, Q, rfl, y1, y2, y3, y4, y5⟩))
  go_ret2
  exact ⟨Rb, c, Q, rfl, y1, y2, Nat.le_trans hb4.size y3, y4, below_step hb4 hb4.size y5⟩

end Go.Proofs.Ytjcbfijliacicaa
