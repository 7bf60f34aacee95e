
/-
  Needs are put in order: the insertion sort of slices.SortFunc. (Walks.)
-/
import Derived.Test.YtmbpffpkmjechaaSizN
import Derived.BigRegion
namespace Go.Proofs.Ytmbpffpkmjechaa
open Go.RowKit

theorem cmpQ_yes {q : Nat → Nat → Bool} {a b : Nat} (h : q a b = true) : cmpQ q a b = -1 := by unfold cmpQ; rw [if_pos h]
theorem cmpQ_no {q : Nat → Nat → Bool} {a b : Nat} (h : q a b = false) : ∃ c : Nat, cmpQ q a b = (c : Int) := by
  unfold cmpQ
  rw [h]
  cases q b a
  · exact ⟨0, rfl⟩
  · exact ⟨1, rfl⟩
set_option maxRecDepth 100000 in
set_option maxHeartbeats 8000000 in
theorem insertionF_any {C : Array Value} (hC : C.size = 39) (F : Nat → Nat → Nat → Bool) (way : Int) (v : Value) (d : Nat → Nat) (X : Array Value) (r g cap : Nat) (L0 : List Nat) (w : World) (hr : r ≤ 9) (hq : Lin (firstQ F) r)
    (hB : HeldB w g 66 (ndX d X L0)) (h0 : Ins (firstQ F) r 1 L0) :
    Calls Try.prog 65 #[.slice (some ⟨g, 0, none⟩) r cap, .int .i64 0, .int .i64 (r : Int), .func (.func 32) #[.agg (dwC (ordC C F) way v)] #[]] w
      fun e w' => e = .returned (.tuple #[]) ∧ ∃ L, Srt (firstQ F) r L ∧ HeldB w' g 66 (ndX d X L) ∧ w.grownBy w' (some g) := by
  have HFW := Lib.hid (fun a b (w : World) (ha : a < 9) (hb : b < 9) => forward_any hC F way v d a b w ha hb)
  have HQ := Lib.hid hq
  clear hq
  generalize firstQ F = q at *
  generalize dwC (ordC C F) way v = D at *
  have hG0 : w.grownBy w (some g) := grownBy_of_below (Below.refl _ _) _
  go_enter Try.func65, Try.ntmps65
  go_wp2
  go_loopw [8, 9] (fun vi _ wr => ∃ (i : Nat) (L : List Nat), vi = .int .i64 (i : Int) ∧ i ≤ r + 1 ∧ HeldB wr g 66 (ndX d X L) ∧ Ins q r i L ∧ w.grownBy wr (some g)) (fun vi _ _ => r + 1 - (intOf vi).toNat)
  case atStart => exact ⟨1, L0, rfl, by omega, hB, h0, hG0⟩
  case round =>
    clear hB h0 hG0
    obtain ⟨i, L, rfl, hi, hH, hI, hG⟩ := hrel
    by_cases hir : i < r
    · have hJ := hI.inner hir
      clear hI
      go_wp2
      go_loopw [9] (fun vj wr => ∃ (j : Nat) (L : List Nat), vj = .int .i64 (j : Int) ∧ HeldB wr g 66 (ndX d X L) ∧ InJ q r i j L ∧ w.grownBy wr (some g)) (fun vj _ => (intOf vj).toNat)
      case atStart => exact ⟨i, L, rfl, hH, hJ, hG⟩
      case round =>
        clear hH hJ hG
        obtain ⟨j, L, rfl, hH, hJ, hG⟩ := hrel
        by_cases h1 : 1 ≤ j
        · obtain ⟨m, hm⟩ : ∃ m, j = m + 1 := ⟨j - 1, by omega⟩
          have hjr : j < r := by have := hJ.hj; omega
          have hla := hJ.lt j hjr
          have hlb := hJ.lt m (by omega)
          have hlen := hJ.len
          have hstop := fun h => (hJ.stop HQ.out h1 h)
          have hswap := fun h => (hJ.swap h1 h)
          rw [show j - 1 = m by omega] at hstop hswap
          have HRA := Lib.hid (fun (W : World) (h : HeldB W g 66 (ndX d X L)) => nd_range (i := j) h (by omega))
          have HRB := Lib.hid (fun (W : World) (h : HeldB W g 66 (ndX d X L)) => nd_range (i := m) h (by omega))
          have HTH := Lib.hid (fun (W : World) (L' : List Nat) (hl : L'.length = r) (h : HeldB W g 66 (ndX d X L')) => (⟨nd_there (i := j) h (by omega), nd_there (i := m) h (by omega)⟩ : W.there g (j * 2) 2 ∧ W.there g (m * 2) 2))
          have HPU := Lib.hid (fun (W : World) (L' : List Nat) (hl : L'.length = r) (h : HeldB W g 66 (ndX d X L')) => (⟨fun x => nd_put (i := j) h (by omega) x, fun x => nd_put (i := m) h (by omega) x⟩ : (∀ x, HeldB (W.setCells g (j * 2) (nd1 d x).toList) g 66 (ndX d X (L'.set j x))) ∧ ∀ x, HeldB (W.setCells g (m * 2) (nd1 d x).toList) g 66 (ndX d X (L'.set m x))))
          have HST := Lib.hid hstop; have HSW := Lib.hid hswap; have HL := Lib.hid hlen
          have HJ := Lib.hid hJ
          clear hstop hswap hlen hJ
          have hsw : swapL L j = (L.set j (L.getD m 0)).set m (L.getD j 0) := by unfold swapL; rw [show j - 1 = m by omega]
          have HSE := Lib.hid hsw; clear hsw
          have hmI : (j : Int) - 1 = (m : Int) := by omega
          have hm0 : 0 < j := by omega
          have hjrI : (j : Int) < (r : Int) := by omega
          have hmrI : (m : Int) < (r : Int) := by omega
          have hwm : wrap64 (m : Int) = (m : Int) := by unfold wrap64; omega
          have HM := Lib.hid hm; clear hm
          have hce : (ndX d X L)[j * 2]? = some (.int .i64 ((L.getD j 0 : Nat) : Int)) ∧ (ndX d X L)[j * 2 + 1]? = some (.int .i64 ((d (L.getD j 0) : Nat) : Int)) ∧ (ndX d X L)[m * 2]? = some (.int .i64 ((L.getD m 0 : Nat) : Int)) ∧ (ndX d X L)[m * 2 + 1]? = some (.int .i64 ((d (L.getD m 0) : Nat) : Int)) := ⟨ndX_lo (by rw [HL.out]; exact hjr), ndX_hi (by rw [HL.out]; exact hjr), ndX_lo (by rw [HL.out]; omega), ndX_hi (by rw [HL.out]; omega)⟩
          have HCE := Lib.hid hce; clear hce
          generalize L.getD j 0 = a at *
          generalize L.getD m 0 = b at *
          have HCP := Lib.hid (fun (w : World) => HFW.out a b w (by omega) (by omega))
          have HSB := Lib.hid hmI
          have HWK := Lib.hid (show IntKind.i64.wrap (m : Int) = (m : Int) by simp [IntKind.wrap, IntKind.bits, IntKind.signed]; omega)
          cases hab : q a b
          · obtain ⟨c, hc⟩ := cmpQ_no hab
            rw [hc] at HCP
            have hc0 : ¬ ((c : Int) < 0) := by omega
            have HCL := Lib.hid (fun (d : Nat) (os : Array Obj) => Calls.regrown_of (HCP.out (Sort.grow (redrawn wr d) os)))
            have HRX := Lib.hid (range_regrown (HRA.out _ hH))
            have HRY := Lib.hid (range_regrown (HRB.out _ hH))
            go_wp2
            refine wp_region_quiet_below (by kernel_rfl) (by kernel_rfl) ?_
            repeat (first | go_big_quiet_step (fail))
            refine wpQuiet_load_mid (by rfl) 66 _ rfl g (j * 2) (by rfl) (nd1 d a).toList (nd1 d a) rfl _ HRX.out Try.underlying66 rfl Try.sizeNd ?_
            go_simp
            repeat (first | go_big_quiet_step (fail))
            refine wpQuiet_load_mid (by rfl) 66 _ rfl g (m * 2) (by rfl) (nd1 d b).toList (nd1 d b) rfl _ HRY.out Try.underlying66 rfl Try.sizeNd ?_
            go_simp
            repeat (first | go_big_quiet_step (with_reducible exact HCL.out _ _) | quiet_step (with_reducible exact HCL.out _ _))
            refine wpQuiet_nil ?_
            intro r7
            have hb7 := below_regrown wr r7.d r7.os
            generalize Sort.grow (redrawn wr r7.d) r7.os = W7 at *
            have hH7 := hH.below hb7
            have hG7 := grownBy_trans hG (grownBy_of_below hb7 _)
            clear HRX HRY HCL hH hG hb7
            go_wp2
            go_roundw
            case rel => exact ⟨i + 1, L, by go_num, by omega, hH7, HST.out hab, hG7⟩
            case measure => simp [intOf]; omega
          · rw [cmpQ_yes hab] at HCP
            have HCL := Lib.hid (fun (d : Nat) (os : Array Obj) => Calls.regrown_of (HCP.out (Sort.grow (redrawn wr d) os)))
            have HRX := Lib.hid (range_regrown (HRA.out _ hH))
            have HRY := Lib.hid (range_regrown (HRB.out _ hH))
            go_wp2
            refine wp_region_quiet_below (by kernel_rfl) (by kernel_rfl) ?_
            repeat (first | go_big_quiet_step (fail))
            refine wpQuiet_load_mid (by rfl) 66 _ rfl g (j * 2) (by rfl) (nd1 d a).toList (nd1 d a) rfl _ HRX.out Try.underlying66 rfl Try.sizeNd ?_
            go_simp
            repeat (first | go_big_quiet_step (fail))
            refine wpQuiet_load_mid (by rfl) 66 _ rfl g (m * 2) (by rfl) (nd1 d b).toList (nd1 d b) rfl _ HRY.out Try.underlying66 rfl Try.sizeNd ?_
            go_simp
            repeat (first | go_big_quiet_step (with_reducible exact HCL.out _ _) | quiet_step (with_reducible exact HCL.out _ _))
            refine wpQuiet_nil ?_
            intro r7
            have hb7 := below_regrown wr r7.d r7.os
            generalize Sort.grow (redrawn wr r7.d) r7.os = W7 at *
            have hH7 := hH.below hb7
            have hG7 := grownBy_trans hG (grownBy_of_below hb7 _)
            clear HRX HRY HCL hH hG hb7
            have HSJ := Lib.hid (HSW.out hab)
            clear hab HST HSW HCP
            have HIX := Lib.hid hmI
            go_wp2
            have kA0 := (hH7.cell (j * 2)).trans HCE.out.1
            have kA1 := (hH7.cell (j * 2 + 1)).trans HCE.out.2.1
            have kB0 := (hH7.cell (m * 2)).trans HCE.out.2.2.1
            have kB1 := (hH7.cell (m * 2 + 1)).trans HCE.out.2.2.2
            have fA0 := hH7.frozen (j * 2)
            have fA1 := hH7.frozen (j * 2 + 1)
            have fB0 := hH7.frozen (m * 2)
            have fB1 := hH7.frozen (m * 2 + 1)
            have q1 := (HPU.out W7 L HL.out hH7).1 b
            have q2 := (HPU.out _ (L.set j b) (by rw [List.length_set]; exact HL.out) q1).2 a
            have hG8 := grownBy_trans hG7 (grownBy_trans (nd_grown W7 g j d b) (nd_grown _ g m d a))
            have Q2 := Lib.hid q2; have G8 := Lib.hid hG8
            clear q1 q2 hG8 hH7 hG7
            go_region
            go_wp2
            go_roundw
            case rel => exact ⟨m, swapL L j, by go_num, by rw [HSE.out]; exact Q2.out.drew, HSJ.out, grownBy_trans G8.out (grownBy_of_below (below_drewN _ _ 1) _)⟩
            case measure => have := HM.out; simp [intOf]; omega
        · obtain rfl : j = 0 := by omega
          have HI := Lib.hid hJ.stop0
          clear hJ
          go_wp2
          refine wp_region_quiet_below (by kernel_rfl) (by kernel_rfl) ?_
          repeat (first | go_big_quiet_step (fail))
          refine wpQuiet_nil ?_
          rintro _ ⟨r7, rfl⟩
          have hb7 := below_regrown wr r7.d r7.os
          generalize Sort.grow (redrawn wr r7.d) r7.os = W7 at *
          have hH7 := hH.below hb7
          have hG7 := grownBy_trans hG (grownBy_of_below hb7 _)
          clear hH hG hb7
          go_wp2
          go_roundw
          case rel => exact ⟨i + 1, L, by go_num, by omega, hH7, HI.out, hG7⟩
          case measure => simp [intOf]; omega
    · have hD := hI.done HQ.out (by omega)
      clear hI
      go_wp2
      exact bodyPost_end (v := .tuple #[]) (by simp [results, Try.results65, go_sem]) rfl ⟨rfl, L, hD, hH, hG⟩

end Go.Proofs.Ytmbpffpkmjechaa
