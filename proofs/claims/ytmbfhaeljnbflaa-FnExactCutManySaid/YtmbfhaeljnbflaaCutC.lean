/-
  How many cuts there are, and the first one: the program's answers. (Walks.)
-/
import Derived.Test.YtmbfhaeljnbflaaCutB
import Derived.Test.YtmbfhaeljnbflaaHeld
namespace Go.Proofs.Ytmbfhaeljnbflaa
open Go.RowKit

set_option maxRecDepth 100000 in
set_option maxHeartbeats 1000000 in
theorem isCut_any (h wd r : Nat) (g : Nat → Nat → Nat) (x : Wl) (w : World) :
    Calls Try.prog 54 #[.agg (planC h wd r g), .agg (wlC x)] w
      fun e w' => e = .returned (.bool (cutB h wd x)) ∧ Below w.heap.size w w' := by
  have HME := Lib.hid (fun w => measure_any h wd r g x.way w)
  have HCS := Lib.hid (planC_size h wd r g)
  have HB := Lib.hid (show (((x.long : Nat) : Int) == ((alongN h wd x.way : Nat) : Int)) = cutB h wd x by
    unfold cutB; rw [Bool.eq_iff_iff, beq_iff_eq, decide_eq_true_eq]; omega)
  generalize planC h wd r g = C at *
  generalize alongN h wd x.way = al at *
  generalize acrossN h wd x.way = ac at *
  have hsz : (Try.prog.info? 39).map (·.size) = some C.size := by rw [HCS.out]; kernel_rfl
  have HSZ := Lib.hid hsz; clear hsz
  have bP : HeldB ((w.alloc (.cells C 39)).alloc (.cells (wlC x) 52)) w.heap.size 39 C := (HeldB.new w _ _).alloc _
  have bX : HeldB ((w.alloc (.cells C 39)).alloc (.cells (wlC x) 52)) (w.heap.size + 1) 52 (wlC x) := by
    have := HeldB.new (w.alloc (.cells C 39)) 52 (wlC x)
    rwa [World.size_alloc] at this
  have x0 := (bX.cell 0).trans (show (wlC x)[0]? = some (.int .i64 (x.way : Nat)) from rfl)
  have hB0 : Below w.heap.size w ((w.alloc (.cells C 39)).alloc (.cells (wlC x) 52)) := ((Below.refl _ w).alloc (Nat.le_refl _) _).alloc (by simp) _
  go_enter Try.func54, Try.ntmps54
  go_wp2_with (first
    | (refine wpList_load_row rfl 39 _ rfl w.heap.size rfl 39 C (0, 0) _ bP Try.underlying39 rfl HSZ.out ?_)
    | (go_at_call 80; refine (HME.out _).mono ?_; rintro e w1 ⟨rfl, hb1⟩; have x3 := ((bX.below hb1).cell 3).trans (show (wlC x)[3]? = some (.int .i64 (x.long : Nat)) from rfl)))
  go_ret
  exact ⟨ret_bool HB.out, below_step hB0 hB0.size hb1⟩

/-- the place of the first wall that a function tells, or -1 -/
def firstI (f : Wl → Bool) (L : List Wl) : Int := if L.any f = true then (L.findIdx f : Nat) else -1

set_option maxRecDepth 100000 in
set_option maxHeartbeats 2000000 in
theorem indexFunc_any (h wd r : Nat) (g : Nat → Nat → Nat) (ro : Option Addr) (rc : Nat) (L : List Wl) (w : World) (hl : L.length ≤ 1000) (hc : CellsAt w ro (wlsC L)) :
    Calls Try.prog 52 #[.slice ro L.length rc, .func (.func 54) #[.agg (planC h wd r g)] #[]] w
      fun e w' => e = .returned (.int .i64 (firstI (cutB h wd) L)) ∧ Below w.heap.size w w' := by
  have HCU := Lib.hid (fun x w => isCut_any h wd r g x w)
  have eg := enters_of Try.func54 (by kernel_rfl) rfl
  have HC := Lib.hid hc
  have HFN := Lib.hid (@first_no (cutB h wd) L)
  have HFY := Lib.hid (show ∀ i, i < L.length → cutB h wd (L.getD i zeroWl) = true → (∀ j, j < i → cutB h wd (L.getD j zeroWl) = false) → L.any (cutB h wd) = true ∧ L.findIdx (cutB h wd) = i from fun i => first_yes)
  unfold firstI
  generalize planC h wd r g = C at *
  generalize cutB h wd = f at *
  generalize L.any f = an at *
  generalize L.findIdx f = ix at *
  obtain ⟨R, hR⟩ : ∃ R, (if an = true then ((ix : Nat) : Int) else -1) = R := ⟨_, rfl⟩
  rw [hR]
  have HR := Lib.hid hR
  clear hR hc
  go_enter Try.func52, Try.ntmps52
  go_wp2
  go_loopw [8] (fun vi wr => ∃ i : Nat, i ≤ L.length ∧ vi = .int .i64 i ∧ Hid (∀ j, j < i → f (L.getD j zeroWl) = false) ∧ Below w.heap.size w wr) (fun vi _ => L.length - (intOf vi).toNat)
  case atStart => exact ⟨0, Nat.zero_le _, rfl, Lib.hid (fun j hj => absurd hj (Nat.not_lt_zero _)), Below.refl _ _⟩
  case round =>
    obtain ⟨i, hi, rfl, HF, hq⟩ := hrel
    by_cases hlt : i < L.length
    · have hlt' : decide ((i : Int) < (L.length : Int)) = true := by rw [decide_eq_true_eq]; omega
      obtain ⟨b, off, rfl, hrg⟩ := wls_range (HC.out.below hq) hlt
      have HY := Lib.hid (HFY.out i hlt)
      have HNX := Lib.hid (show f (L.getD i zeroWl) = false → ∀ j, j < i + 1 → f (L.getD j zeroWl) = false from fun h j hj => by
        rcases Nat.lt_succ_iff_lt_or_eq.1 hj with h' | rfl
        · exact HF.out j h'
        · exact h)
      generalize L.getD i zeroWl = X at *
      cases hf : f X
      · have HE := Lib.hid (HNX.out hf)
        go_wp2_with (first
          | (refine wpList_load_wl rfl 52 _ rfl b (off + i * 4) rfl X _ hrg Try.underlying52 rfl Try.sizeWl ?_)
          | (go_at_call 54; refine (HCU.out _ _).mono ?_; rw [hf]; rintro e w3 ⟨rfl, hb3⟩))
        go_roundw
        case rel => exact ⟨i + 1, by omega, by go_num, HE, below_step hq hq.size hb3⟩
        case measure => simp [intOf]; omega
      · have HE := Lib.hid (HY.out hf HF.out)
        go_wp2_with (first
          | (refine wpList_load_wl rfl 52 _ rfl b (off + i * 4) rfl X _ hrg Try.underlying52 rfl Try.sizeWl ?_)
          | (go_at_call 54; refine (HCU.out _ _).mono ?_; rw [hf]; rintro e w3 ⟨rfl, hb3⟩))
        go_ret
        refine ⟨ret_int ?_, below_step hq hq.size hb3⟩
        obtain ⟨e1, e2⟩ := HE.out
        rw [← HR.out, e1, if_pos rfl, e2]
    · obtain rfl : i = L.length := by omega
      have hlt' : decide ((L.length : Int) < (L.length : Int)) = false := by rw [decide_eq_false_iff_not]; omega
      go_wp2
      go_ret
      refine ⟨ret_int ?_, hq⟩
      rw [← HR.out, HFN.out HF.out, if_neg (by decide)]

theorem cutMany_prog (p : List ByteArray) : cutN p = cntC (cutB (planH p) (planW p)) (wallsP p) := rfl

set_option maxRecDepth 100000 in
set_option maxHeartbeats 2000000 in
theorem implCutMany_any (ao : Option Addr) (cap : Nat) (p : List ByteArray) (w : World) (hl : p.length ≤ 1048576) (hs : ∀ s ∈ p, s.size ≤ 1048576) (hc : CellsAt w ao (p.map Value.string)) :
    Calls Try.prog 28 #[.slice ao p.length cap] w fun e w' => e = .returned (.tuple #[.int .i64 (cutN p : Nat), .bool (planB p)]) ∧ Below w.heap.size w w' := by
  have hle := wallsP_len p
  have HRP := Lib.hid (fun w hc => by have := readPlan_any ao cap p w hl hs hc; rw [readC_plan, readOk_eq] at this; exact this)
  have HWA := Lib.hid (fun w => walls_any (planH p) (planW p) (planR p) (planG p) w (planH_le p) (planW_le p))
  have HCU := Lib.hid (fun x w => isCut_any (planH p) (planW p) (planR p) (planG p) x w)
  have HPS := Lib.hid (plan_size (planH p) (planW p) (planR p) (planG p))
  have HP1 := Lib.hid (planC_one (planH p) (planW p) (planR p) (planG p))
  have HCS := Lib.hid (planC_size (planH p) (planW p) (planR p) (planG p))
  change Hid (∀ w, Calls _ _ _ w fun e w' => ∃ ro rc, e = .returned (.slice ro (wallsP p).length rc) ∧ w'.ownsRow w.heap.size 52 4 (.slice ro (wallsP p).length rc) (wallsP p).length (wlsC (wallsP p)) ∧ Below w.heap.size w w') at HWA
  rw [cutMany_prog]
  generalize wallsP p = L at *
  generalize cutB (planH p) (planW p) = f at *
  generalize planC (planH p) (planW p) (planR p) (planG p) = C at *
  generalize planB p = pb at *
  go_enter Try.func28, Try.ntmps28
  go_wp2_with (first
    | (refine wpList_alloc_zero rfl 39 rfl zeroC zero_plan ?_)
    | (refine wpList_store_new rfl 39 _ _ rfl _ zeroC C rfl rfl rfl HPS.out (by rw [HCS.out]; rfl) HP1.out ?_)
    | (refine wpList_load_row rfl 39 _ rfl w1.heap.size rfl 39 C (0, 0) _ (HeldB.new w1 _ _) Try.underlying39 rfl HPS.out ?_)
    | (go_at_call 45; refine (HRP.out _ hc).mono ?_; rintro e w1 ⟨rfl, hb1⟩)
    | (go_at_call 53; refine (HWA.out _).mono ?_; rintro e w2 ⟨ro, rc, rfl, hown, hb2⟩))
  have bP2 := (HeldB.new w1 39 C).below hb2
  have hB2 : Below w.heap.size w w2 := below_step hb1 hb1.size ((below_alloc w1 (.cells C 39)).trans (hb2.mono (by simp)))
  have HCE := Lib.hid (ownsK_cells hown)
  have hw1s := hb1.size
  have hs2 : w1.heap.size + 1 ≤ w2.heap.size := by have := hb2.size; simp at this; omega
  clear hown hb2
  obtain ⟨W2, hW2⟩ : ∃ W2, W2 = w2 := ⟨_, rfl⟩
  have BP := Lib.hid bP2
  clear bP2
  go_loopw [6, 17] (fun va vi wr => ∃ i : Nat, i ≤ L.length ∧ vi = .int .i64 i ∧ va = .int .i64 (cntC f (L.take i) : Nat) ∧ Below w2.heap.size w2 wr) (fun _ vi _ => L.length - (intOf vi).toNat)
  case atStart => exact ⟨0, Nat.zero_le _, rfl, rfl, Below.refl _ _⟩
  case round =>
    obtain ⟨i, hi, rfl, rfl, hq⟩ := hrel
    have hct : cntC f (L.take i) ≤ 72 := Nat.le_trans (cntC_le f _) (by rw [List.length_take]; omega)
    by_cases hlt : i < L.length
    · have hlt' : decide ((i : Int) < (L.length : Int)) = true := by rw [decide_eq_true_eq]; omega
      obtain ⟨b, off, rfl, hrg⟩ := wls_range (HCE.out.below hq) hlt
      have HY := Lib.hid (@cntC_yes f L i hlt)
      have HN := Lib.hid (@cntC_no f L i hlt)
      generalize L.getD i zeroWl = X at *
      generalize hcN : cntC f (L.take i) = n at *
      have HCN := Lib.hid hcN; clear hcN
      have bP := (BP.out.below hq).alloc (.cells (wlC X) 52)
      have bX := HeldB.new wr 52 (wlC X)
      have hqa : Below w2.heap.size w2 (wr.alloc (.cells (wlC X) 52)) := hq.alloc hq.size _
      cases hf : f X
      · have HE := Lib.hid (HN.out hf)
        go_wp2_with (first
          | (refine wpList_load_wl rfl 52 _ rfl b (off + i * 4) rfl X _ hrg Try.underlying52 rfl Try.sizeWl ?_)
          | (refine wpList_store_new rfl 52 _ _ rfl _ (wlC zeroWl) (wlC X) rfl rfl rfl (wl_size _) rfl (wlC_one _) ?_)
          | (refine wpList_load_row rfl 39 _ rfl w1.heap.size rfl 39 C (0, 0) _ bP Try.underlying39 rfl HPS.out ?_)
          | (refine wpList_load_row rfl 52 _ rfl wr.heap.size rfl 52 (wlC X) (0, 0) _ bX Try.underlying52 rfl (wl_size _) ?_)
          | (go_at_call 54; refine (HCU.out _ _).mono ?_; rw [hf]; rintro e w3 ⟨rfl, hb3⟩))
        go_roundw
        case rel => exact ⟨i + 1, by omega, by go_num, by rw [HE.out], below_step hqa hqa.size hb3⟩
        case measure => simp [intOf]; omega
      · have HE := Lib.hid (HY.out hf)
        go_wp2_with (first
          | (refine wpList_load_wl rfl 52 _ rfl b (off + i * 4) rfl X _ hrg Try.underlying52 rfl Try.sizeWl ?_)
          | (refine wpList_store_new rfl 52 _ _ rfl _ (wlC zeroWl) (wlC X) rfl rfl rfl (wl_size _) rfl (wlC_one _) ?_)
          | (refine wpList_load_row rfl 39 _ rfl w1.heap.size rfl 39 C (0, 0) _ bP Try.underlying39 rfl HPS.out ?_)
          | (refine wpList_load_row rfl 52 _ rfl wr.heap.size rfl 52 (wlC X) (0, 0) _ bX Try.underlying52 rfl (wl_size _) ?_)
          | (go_at_call 54; refine (HCU.out _ _).mono ?_; rw [hf]; rintro e w3 ⟨rfl, hb3⟩))
        go_roundw
        case rel => exact ⟨i + 1, by omega, by go_num, by rw [HE.out]; go_num, below_step hqa hqa.size hb3⟩
        case measure => simp [intOf]; omega
    · obtain rfl : i = L.length := by omega
      have hlt' : decide ((L.length : Int) < (L.length : Int)) = false := by rw [decide_eq_false_iff_not]; omega
      rw [List.take_length] at *
      go_wp2
      go_ret2
      exact ⟨rfl, below_step hB2 hB2.size hq⟩

theorem firstI_lt (f : Wl → Bool) (L : List Wl) : decide (firstI f L < 0) = !(L.any f) := by
  unfold firstI
  cases L.any f <;> simp

set_option maxRecDepth 100000 in
set_option maxHeartbeats 2000000 in
theorem implCutFirst_any (ao : Option Addr) (cap : Nat) (p : List ByteArray) (w : World) (hl : p.length ≤ 1048576) (hs : ∀ s ∈ p, s.size ≤ 1048576) (hc : CellsAt w ao (p.map Value.string)) :
    Calls Try.prog 26 #[.slice ao p.length cap] w fun e w' => e = .returned (.tuple #[.int .i64 (cutI p : Nat), .bool (cutOk p)]) ∧ Below w.heap.size w w' := by
  have hle := wallsP_len p
  have HRP := Lib.hid (fun w hc => by have := readPlan_any ao cap p w hl hs hc; rw [readC_plan, readOk_eq] at this; exact this)
  have HWA := Lib.hid (fun w => walls_any (planH p) (planW p) (planR p) (planG p) w (planH_le p) (planW_le p))
  have HIF := Lib.hid (fun ro rc w hc => indexFunc_any (planH p) (planW p) (planR p) (planG p) ro rc (wallsP p) w (by omega) hc)
  have HFL := Lib.hid (firstI_lt (cutB (planH p) (planW p)) (wallsP p))
  have HPS := Lib.hid (plan_size (planH p) (planW p) (planR p) (planG p))
  have HP1 := Lib.hid (planC_one (planH p) (planW p) (planR p) (planG p))
  have HCS := Lib.hid (planC_size (planH p) (planW p) (planR p) (planG p))
  have HCI := Lib.hid (show cutOk p = true → (cutI p : Int) = firstI (cutB (planH p) (planW p)) (wallsP p) from fun h => by
    unfold cutI firstI; rw [if_pos h, if_pos (show (wallsP p).any (cutB (planH p) (planW p)) = true from h)]; rfl)
  have HCN := Lib.hid (show cutOk p = false → cutI p = 0 from fun h => by unfold cutI; rw [h]; rfl)
  change Hid (_ = !(cutOk p)) at HFL
  change Hid (∀ w, Calls _ _ _ w fun e w' => ∃ ro rc, e = .returned (.slice ro (wallsP p).length rc) ∧ w'.ownsRow w.heap.size 52 4 (.slice ro (wallsP p).length rc) (wallsP p).length (wlsC (wallsP p)) ∧ Below w.heap.size w w') at HWA
  generalize firstI (cutB (planH p) (planW p)) (wallsP p) = fi at *
  generalize cutI p = ci at *
  generalize cutOk p = co at *
  generalize wallsP p = L at *
  generalize planC (planH p) (planW p) (planR p) (planG p) = C at *
  generalize planB p = pb at *
  go_enter Try.func26, Try.ntmps26
  go_wp2_with (first
    | (refine wpList_alloc_zero rfl 39 rfl zeroC zero_plan ?_)
    | (refine wpList_store_new rfl 39 _ _ rfl _ zeroC C rfl rfl rfl HPS.out (by rw [HCS.out]; rfl) HP1.out ?_)
    | (go_at_call 45; refine (HRP.out _ hc).mono ?_; rintro e w1 ⟨rfl, hb1⟩))
  have bP := HeldB.new w1 39 C
  have hB1 : Below w.heap.size w (w1.alloc (.cells C 39)) := hb1.alloc hb1.size _
  generalize w1.alloc (.cells C 39) = W1 at *
  generalize w1.heap.size = B at *
  clear hb1
  refine wp_region_held (S := fun w' => HeldB w' B 39 C) (by kernel_rfl) ?_
  have hBd : Below w.heap.size w ({ W1 with drawn := W1.drawn + 1 } : World) := hB1.trans (below_drewN _ W1 1)
  have bPd : HeldB ({ W1 with drawn := W1.drawn + 1 } : World) B 39 C := bP
  generalize ({ W1 with drawn := W1.drawn + 1 } : World) = W2 at *
  clear bP hB1
  change Go.wpAnyH Try.prog Region.Mode.any _ _ _ 6 (Array.replicate 6 false) _ _
  refine wpAnyH_take (i := 0) (v := .agg C) rfl (by kernel_rfl) (by kernel_rfl) (by kernel_rfl) (fun _ _ _ h => h) (yieldsIf_load_row (by rfl) 39 _ rfl B (by rfl) 39 C _ (fun _ h => h) Try.underlying39 rfl HPS.out) bPd ?_
  refine wpAnyH_take (i := 2) (v := .agg C) rfl (by kernel_rfl) (by kernel_rfl) (by kernel_rfl) (fun _ _ _ h => h) (yieldsIf_load_row (by rfl) 39 _ rfl B (by rfl) 39 C _ (fun _ h => h) Try.underlying39 rfl HPS.out) bPd ?_
  refine wpAnyH_take (i := 3) (v := .func (.func 54) #[.agg C] #[]) rfl (by kernel_rfl) (by kernel_rfl) (by kernel_rfl) (fun _ _ _ h => h) (Yields.yieldsIf (Or.inl ⟨by rfl, fun w => by simp [go_sem, Instr.makeFunc, execOp, Act.eval, Act.put] <;> rfl⟩)) bPd ?_
  refine wpAnyH_all (rs := [1]) (by kernel_rfl) (by decide) ?_
  intro i hi
  simp only [List.mem_cons, List.not_mem_nil, or_false] at hi
  subst hi
  refine wpOp_go rfl (by rfl) ?_
  unfold Oper.wp
  go_simp
  refine (HWA.out _).mono ?_
  rintro e w3 ⟨ro, rc, rfl, hown, hb3⟩
  refine ⟨bPd.below hb3, ?_⟩
  have hce := ownsK_cells hown
  have hB3 := below_step hBd hBd.size hb3
  have bP3 := bPd.below hb3
  refine wpAnyH_all (rs := [4]) (by kernel_rfl) (by decide) ?_
  intro i hi
  simp only [List.mem_cons, List.not_mem_nil, or_false] at hi
  subst hi
  refine wpOp_go rfl (by rfl) ?_
  unfold Oper.wp
  go_simp
  refine (HIF.out _ _ _ hce).mono ?_
  rintro e w4 ⟨rfl, hb4⟩
  refine ⟨bP3.below hb4, ?_⟩
  have hB4 := below_step hB3 hB3.size hb4
  refine wpAnyH_take (i := 5) (v := .int .i64 fi) rfl (by kernel_rfl) (by kernel_rfl) (by kernel_rfl) (fun _ _ _ h => h) (Yields.yieldsIf (Or.inl ⟨by rfl, fun w => by go_simp⟩)) (bP3.below hb4) ?_
  refine wpAnyH_done (by kernel_rfl) ?_ _
  cases co
  · have hlt := HFL.out
    rw [Bool.not_false] at hlt
    have HE := Lib.hid (HCN.out rfl)
    go_wp2
    go_ret2
    exact ⟨by rw [HE.out]; rfl, hB4⟩
  · have hlt := HFL.out
    rw [Bool.not_true] at hlt
    have HE := Lib.hid (HCI.out rfl)
    go_wp2
    go_ret2
    exact ⟨by rw [HE.out]; rfl, hB4⟩

end Go.Proofs.Ytmbfhaeljnbflaa
