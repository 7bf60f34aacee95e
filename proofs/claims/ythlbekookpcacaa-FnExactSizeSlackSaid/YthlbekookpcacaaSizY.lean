
/-
  Merged texts: SizF SizG SizH SizI SizJ SizK.
-/
import Derived.Test.YthlbekookpcacaaSizX
import Derived.Test.YthlbekookpcacaaSizV
import Derived.BigRegion
import Derived.OrdersHeld
import Derived.Deep.AppendLies
import Derived.Deep.RegionHeld3

/-
  The comparison that puts needs in the same order from behind. (Walks.)
-/
namespace Go.Proofs.Ythlbekookpcacaa
open Go.RowKit

/-- a question asked from behind -/
def flipQ (q : Nat → Nat → Bool) : Nat → Nat → Bool := fun a b => q b a
theorem Lin.flip {q : Nat → Nat → Bool} {r : Nat} (L : Lin q r) : Lin (flipQ q) r :=
  ⟨fun a ha => L.irr a ha, fun a b ha hb hne => (L.all a b ha hb hne).elim Or.inr Or.inl, fun a b c ha hb hc h1 h2 => L.trans c b a hc hb ha h2 h1⟩
theorem Goes.flip {f q : Nat → Nat → Bool} {r : Nat} (G : Goes f q r) : Goes (flipQ f) (flipQ q) r :=
  ⟨G.lin.flip, fun a b h => ⟨(G.imp b a h).2.1, (G.imp b a h).1, (G.imp b a h).2.2⟩⟩
theorem cmpQ_flip (q : Nat → Nat → Bool) (a b : Nat) : cmpQ q b a = cmpQ (flipQ q) a b := rfl
def fwV (D : Array Value) : Value := .func (.func 78) #[.agg D] #[]
set_option maxRecDepth 100000 in
theorem opposite_any (D : Array Value) (w : World) :
    Calls Try.prog 80 #[fwV D] w
      fun e w' => e = .returned (.func (.func 106) #[] #[.pointer (some ⟨w.heap.size, 0, none⟩)]) ∧ HeldB w' w.heap.size 101 #[fwV D] ∧ Below w.heap.size w w' := by
  have hH := HeldB.new w 101 #[fwV D]
  have hb := below_alloc w (.cells #[fwV D] 101)
  unfold fwV at *
  go_enter Try.func80, Try.ntmps80
  go_wp2
  go_ret
  exact ⟨rfl, hH, hb⟩
set_option maxRecDepth 100000 in
set_option maxHeartbeats 4000000 in
theorem oppCmp_any {C : Array Value} (hC : C.size = 39) (F : Nat → Nat → Nat → Bool) (way : Int) (v : Value) (d : Nat → Nat) (B a b : Nat) (w : World) (ha : a < 9) (hb : b < 9)
    (hB : HeldB w B 101 #[fwV (dwC (ordC C F) way v)]) :
    Calls Try.prog 106 #[.agg (nd1 d a), .agg (nd1 d b), .pointer (some ⟨B, 0, none⟩)] w fun e w' => e = .returned (.int .i64 (cmpQ (flipQ (firstQ F)) a b)) ∧ Below w.heap.size w w' := by
  have HF := Lib.hid (fun (w : World) => forward_any hC F way v d b a w hb ha)
  rw [cmpQ_flip] at HF
  have hB0 : Below w.heap.size w ((w.alloc (.cells (nd1 d a) 105)).alloc (.cells (nd1 d b) 105)) := ((Below.refl _ w).alloc (Nat.le_refl _) _).alloc (by simp) _
  have cB := ((hB.alloc (.cells (nd1 d a) 105)).alloc (.cells (nd1 d b) 105)).cell 0
  rw [show (#[fwV (dwC (ordC C F) way v)] : Array Value)[0]? = some (fwV (dwC (ordC C F) way v)) from rfl] at cB
  generalize cmpQ (flipQ (firstQ F)) a b = x at *
  unfold fwV nd1 at *
  generalize dwC (ordC C F) way v = D at *
  clear hB
  go_enter Try.func106, Try.ntmps106
  go_wp2_with (go_at_call 78; refine (HF.out _).mono ?_; rintro e w1 ⟨rfl, hb1⟩)
  go_ret
  exact ⟨rfl, below_step hB0 hB0.size hb1⟩

end Go.Proofs.Ythlbekookpcacaa

/-
  Needs are put in order from behind: slices.SortFunc with the opposite comparison. (Walks.)
-/
namespace Go.Proofs.Ythlbekookpcacaa
open Go.RowKit

set_option maxRecDepth 100000 in
set_option maxHeartbeats 8000000 in
theorem insertionB_any {C : Array Value} (hC : C.size = 39) (F : Nat → Nat → Nat → Bool) (way : Int) (v : Value) (d : Nat → Nat) (X : Array Value) (B r g cap : Nat) (L0 : List Nat) (w : World) (hr : r ≤ 9) (hq : Lin (flipQ (firstQ F)) r)
    (hBx : HeldB w B 101 #[fwV (dwC (ordC C F) way v)]) (hBg : B ≠ g) (hB : HeldB w g 105 (ndX d X L0)) (h0 : Ins (flipQ (firstQ F)) r 1 L0) :
    Calls Try.prog 131 #[.slice (some ⟨g, 0, none⟩) r cap, .int .i64 0, .int .i64 (r : Int), .func (.func 106) #[] #[.pointer (some ⟨B, 0, none⟩)]] w
      fun e w' => e = .returned (.tuple #[]) ∧ ∃ L, Srt (flipQ (firstQ F)) r L ∧ HeldB w' g 105 (ndX d X L) ∧ w.grownBy w' (some g) := by
  have HFW := Lib.hid (fun a b (w : World) (ha : a < 9) (hb : b < 9) hh => oppCmp_any hC F way v d B a b w ha hb hh)
  have HQ := Lib.hid hq
  clear hq
  generalize flipQ (firstQ F) = q at *
  generalize dwC (ordC C F) way v = D at *
  have hG0 : w.grownBy w (some g) := grownBy_of_below (Below.refl _ _) _
  go_enter Try.func131, Try.ntmps131
  go_wp2
  go_loopw [8, 9] (fun vi _ wr => ∃ (i : Nat) (L : List Nat), vi = .int .i64 (i : Int) ∧ i ≤ r + 1 ∧ HeldB wr g 105 (ndX d X L) ∧ Ins q r i L ∧ w.grownBy wr (some g)) (fun vi _ _ => r + 1 - (intOf vi).toNat)
  case atStart => exact ⟨1, L0, rfl, by omega, hB, h0, hG0⟩
  case round =>
    clear hB h0 hG0
    obtain ⟨i, L, rfl, hi, hH, hI, hG⟩ := hrel
    by_cases hir : i < r
    · have hJ := hI.inner hir
      clear hI
      go_wp2
      go_loopw [9] (fun vj wr => ∃ (j : Nat) (L : List Nat), vj = .int .i64 (j : Int) ∧ HeldB wr g 105 (ndX d X L) ∧ InJ q r i j L ∧ w.grownBy wr (some g)) (fun vj _ => (intOf vj).toNat)
      case atStart => exact ⟨i, L, rfl, hH, hJ, hG⟩
      case round =>
        clear hH hJ hG
        obtain ⟨j, L, rfl, hH, hJ, hG⟩ := hrel
        by_cases h1 : 1 ≤ j
        · obtain ⟨m, hm⟩ : ∃ m, j = m + 1 := ⟨j - 1, by omega⟩
          have hjr : j < r := by have := hJ.hj; omega
          have hla := hJ.lt j hjr
          have hlb := hJ.lt m (by omega)
          have hlen := hJ.len
          have hstop := fun h => (hJ.stop HQ.out h1 h)
          have hswap := fun h => (hJ.swap h1 h)
          rw [show j - 1 = m by omega] at hstop hswap
          have HRA := Lib.hid (fun (W : World) (h : HeldB W g 105 (ndX d X L)) => nd_range (i := j) h (by omega))
          have HRB := Lib.hid (fun (W : World) (h : HeldB W g 105 (ndX d X L)) => nd_range (i := m) h (by omega))
          have HTH := Lib.hid (fun (W : World) (L' : List Nat) (hl : L'.length = r) (h : HeldB W g 105 (ndX d X L')) => (⟨nd_there (i := j) h (by omega), nd_there (i := m) h (by omega)⟩ : W.there g (j * 2) 2 ∧ W.there g (m * 2) 2))
          have HPU := Lib.hid (fun (W : World) (L' : List Nat) (hl : L'.length = r) (h : HeldB W g 105 (ndX d X L')) => (⟨fun x => nd_put (i := j) h (by omega) x, fun x => nd_put (i := m) h (by omega) x⟩ : (∀ x, HeldB (W.setCells g (j * 2) (nd1 d x).toList) g 105 (ndX d X (L'.set j x))) ∧ ∀ x, HeldB (W.setCells g (m * 2) (nd1 d x).toList) g 105 (ndX d X (L'.set m x))))
          have HST := Lib.hid hstop; have HSW := Lib.hid hswap; have HL := Lib.hid hlen
          have HJ := Lib.hid hJ
          clear hstop hswap hlen hJ
          have hsw : swapL L j = (L.set j (L.getD m 0)).set m (L.getD j 0) := by unfold swapL; rw [show j - 1 = m by omega]
          have HSE := Lib.hid hsw; clear hsw
          have hmI : (j : Int) - 1 = (m : Int) := by omega
          have hm0 : 0 < j := by omega
          have hjrI : (j : Int) < (r : Int) := by omega
          have hmrI : (m : Int) < (r : Int) := by omega
          have hwm : wrap64 (m : Int) = (m : Int) := by unfold wrap64; omega
          have HM := Lib.hid hm; clear hm
          have hce : (ndX d X L)[j * 2]? = some (.int .i64 ((L.getD j 0 : Nat) : Int)) ∧ (ndX d X L)[j * 2 + 1]? = some (.int .i64 ((d (L.getD j 0) : Nat) : Int)) ∧ (ndX d X L)[m * 2]? = some (.int .i64 ((L.getD m 0 : Nat) : Int)) ∧ (ndX d X L)[m * 2 + 1]? = some (.int .i64 ((d (L.getD m 0) : Nat) : Int)) := ⟨ndX_lo (by rw [HL.out]; exact hjr), ndX_hi (by rw [HL.out]; exact hjr), ndX_lo (by rw [HL.out]; omega), ndX_hi (by rw [HL.out]; omega)⟩
          have HCE := Lib.hid hce; clear hce
          generalize L.getD j 0 = a at *
          generalize L.getD m 0 = b at *
          have hBw := hBx.kept hG (by simp only [ne_eq, Option.some.injEq]; exact hBg)
          have HBW := Lib.hid hBw; clear hBw
          have HCP := Lib.hid (fun (w : World) hh => HFW.out a b w (by omega) (by omega) hh)
          have HSB := Lib.hid hmI
          have HWK := Lib.hid (show IntKind.i64.wrap (m : Int) = (m : Int) by simp [IntKind.wrap, IntKind.bits, IntKind.signed]; omega)
          cases hab : q a b
          · obtain ⟨c, hc⟩ := cmpQ_no hab
            rw [hc] at HCP
            have hc0 : ¬ ((c : Int) < 0) := by omega
            have HCL := Lib.hid (fun (d : Nat) (os : Array Obj) => Calls.regrown_of (HCP.out (Sort.grow (redrawn wr d) os) (HBW.out.below (below_regrown wr d os))))
            have HRX := Lib.hid (range_regrown (HRA.out _ hH))
            have HRY := Lib.hid (range_regrown (HRB.out _ hH))
            go_wp2
            refine wp_region_quiet_below (by kernel_rfl) (by kernel_rfl) ?_
            repeat (first | go_big_quiet_step (fail))
            refine wpQuiet_load_mid (by rfl) 105 _ rfl g (j * 2) (by rfl) (nd1 d a).toList (nd1 d a) rfl _ HRX.out Try.underlying105 rfl Try.sizeNd ?_
            go_simp
            repeat (first | go_big_quiet_step (fail))
            refine wpQuiet_load_mid (by rfl) 105 _ rfl g (m * 2) (by rfl) (nd1 d b).toList (nd1 d b) rfl _ HRY.out Try.underlying105 rfl Try.sizeNd ?_
            go_simp
            repeat (first | go_big_quiet_step (with_reducible exact HCL.out _ _) | quiet_step (with_reducible exact HCL.out _ _))
            refine wpQuiet_nil ?_
            intro r7
            have hb7 := below_regrown wr r7.d r7.os
            generalize Sort.grow (redrawn wr r7.d) r7.os = W7 at *
            have hH7 := hH.below hb7
            have hG7 := grownBy_trans hG (grownBy_of_below hb7 _)
            clear HRX HRY HCL hH hG hb7
            go_wp2
            go_roundw
            case rel => exact ⟨i + 1, L, by go_num, by omega, hH7, HST.out hab, hG7⟩
            case measure => simp [intOf]; omega
          · rw [cmpQ_yes hab] at HCP
            have HCL := Lib.hid (fun (d : Nat) (os : Array Obj) => Calls.regrown_of (HCP.out (Sort.grow (redrawn wr d) os) (HBW.out.below (below_regrown wr d os))))
            have HRX := Lib.hid (range_regrown (HRA.out _ hH))
            have HRY := Lib.hid (range_regrown (HRB.out _ hH))
            go_wp2
            refine wp_region_quiet_below (by kernel_rfl) (by kernel_rfl) ?_
            repeat (first | go_big_quiet_step (fail))
            refine wpQuiet_load_mid (by rfl) 105 _ rfl g (j * 2) (by rfl) (nd1 d a).toList (nd1 d a) rfl _ HRX.out Try.underlying105 rfl Try.sizeNd ?_
            go_simp
            repeat (first | go_big_quiet_step (fail))
            refine wpQuiet_load_mid (by rfl) 105 _ rfl g (m * 2) (by rfl) (nd1 d b).toList (nd1 d b) rfl _ HRY.out Try.underlying105 rfl Try.sizeNd ?_
            go_simp
            repeat (first | go_big_quiet_step (with_reducible exact HCL.out _ _) | quiet_step (with_reducible exact HCL.out _ _))
            refine wpQuiet_nil ?_
            intro r7
            have hb7 := below_regrown wr r7.d r7.os
            generalize Sort.grow (redrawn wr r7.d) r7.os = W7 at *
            have hH7 := hH.below hb7
            have hG7 := grownBy_trans hG (grownBy_of_below hb7 _)
            clear HRX HRY HCL hH hG hb7
            have HSJ := Lib.hid (HSW.out hab)
            clear hab HST HSW HCP
            have HIX := Lib.hid hmI
            go_wp2
            have kA0 := (hH7.cell (j * 2)).trans HCE.out.1
            have kA1 := (hH7.cell (j * 2 + 1)).trans HCE.out.2.1
            have kB0 := (hH7.cell (m * 2)).trans HCE.out.2.2.1
            have kB1 := (hH7.cell (m * 2 + 1)).trans HCE.out.2.2.2
            have fA0 := hH7.frozen (j * 2)
            have fA1 := hH7.frozen (j * 2 + 1)
            have fB0 := hH7.frozen (m * 2)
            have fB1 := hH7.frozen (m * 2 + 1)
            have q1 := (HPU.out W7 L HL.out hH7).1 b
            have q2 := (HPU.out _ (L.set j b) (by rw [List.length_set]; exact HL.out) q1).2 a
            have hG8 := grownBy_trans hG7 (grownBy_trans (nd_grown W7 g j d b) (nd_grown _ g m d a))
            have Q2 := Lib.hid q2; have G8 := Lib.hid hG8
            clear q1 q2 hG8 hH7 hG7
            go_region
            go_wp2
            go_roundw
            case rel => exact ⟨m, swapL L j, by go_num, by rw [HSE.out]; exact Q2.out.drew, HSJ.out, grownBy_trans G8.out (grownBy_of_below (below_drewN _ _ 1) _)⟩
            case measure => have := HM.out; simp [intOf]; omega
        · obtain rfl : j = 0 := by omega
          have HI := Lib.hid hJ.stop0
          clear hJ
          go_wp2
          refine wp_region_quiet_below (by kernel_rfl) (by kernel_rfl) ?_
          repeat (first | go_big_quiet_step (fail))
          refine wpQuiet_nil ?_
          rintro _ ⟨r7, rfl⟩
          have hb7 := below_regrown wr r7.d r7.os
          generalize Sort.grow (redrawn wr r7.d) r7.os = W7 at *
          have hH7 := hH.below hb7
          have hG7 := grownBy_trans hG (grownBy_of_below hb7 _)
          clear hH hG hb7
          go_wp2
          go_roundw
          case rel => exact ⟨i + 1, L, by go_num, by omega, hH7, HI.out, hG7⟩
          case measure => simp [intOf]; omega
    · have hD := hI.done HQ.out (by omega)
      clear hI
      go_wp2
      exact bodyPost_end (v := .tuple #[]) (by simp [results, Try.results131, go_sem]) rfl ⟨rfl, L, hD, hH, hG⟩

set_option maxRecDepth 100000 in
set_option maxHeartbeats 4000000 in
theorem pdqB_any {C : Array Value} (hC : C.size = 39) (F : Nat → Nat → Nat → Bool) (way : Int) (v : Value) (d : Nat → Nat) (X : Array Value) (B r g cap : Nat) (lim : Int) (L0 : List Nat) (w : World) (hr : r ≤ 9) (hq : Lin (flipQ (firstQ F)) r)
    (hBx : HeldB w B 101 #[fwV (dwC (ordC C F) way v)]) (hBg : B ≠ g) (hB : HeldB w g 105 (ndX d X L0)) (h0 : Ins (flipQ (firstQ F)) r 1 L0) :
    Calls Try.prog 116 #[.slice (some ⟨g, 0, none⟩) r cap, .int .i64 0, .int .i64 (r : Int), .int .i64 lim, .func (.func 106) #[] #[.pointer (some ⟨B, 0, none⟩)]] w
      fun e w' => e = .returned (.tuple #[]) ∧ ∃ L, Srt (flipQ (firstQ F)) r L ∧ HeldB w' g 105 (ndX d X L) ∧ w.grownBy w' (some g) := by
  have HI := Lib.hid (insertionB_any hC F way v d X B r g cap L0 w hr hq hBx hBg hB h0)
  clear hq hB h0 hBx
  generalize flipQ (firstQ F) = q at *
  generalize dwC (ordC C F) way v = D at *
  have h12 : (r : Int) ≤ 12 := by omega
  go_enter Try.func116, Try.ntmps116
  go_wp2
  refine wp_loop_rounds 1 ?_
  rw [rounds_succ]
  go_wp2_with (go_at_call 131; refine HI.out.mono ?_; rintro e w1 ⟨rfl, L, h1, h2, h3⟩)
  exact bodyPost_ret (results_none rfl _ _ _) rfl ⟨rfl, L, h1, h2, h3⟩
set_option maxRecDepth 100000 in
theorem sortB_any {C : Array Value} (hC : C.size = 39) (F : Nat → Nat → Nat → Bool) (way : Int) (v : Value) (d : Nat → Nat) (X : Array Value) (B r g cap : Nat) (L0 : List Nat) (w : World) (hr : r ≤ 9) (hq : Lin (flipQ (firstQ F)) r)
    (hBx : HeldB w B 101 #[fwV (dwC (ordC C F) way v)]) (hBg : B ≠ g) (hB : HeldB w g 105 (ndX d X L0)) (h0 : Ins (flipQ (firstQ F)) r 1 L0) :
    Calls Try.prog 104 #[.slice (some ⟨g, 0, none⟩) r cap, .func (.func 106) #[] #[.pointer (some ⟨B, 0, none⟩)]] w
      fun e w' => e = .returned (.tuple #[]) ∧ ∃ L, Srt (flipQ (firstQ F)) r L ∧ HeldB w' g 105 (ndX d X L) ∧ w.grownBy w' (some g) := by
  have HI := Lib.hid (fun lim => pdqB_any hC F way v d X B r g cap lim L0 w hr hq hBx hBg hB h0)
  have HL := Lib.hid (fun w => len_any r hr w)
  have hw : IntKind.u64.wrap (r : Int) = (r : Int) := by simp [IntKind.wrap, IntKind.bits, IntKind.signed]; omega
  clear hq hB h0 hBx
  generalize flipQ (firstQ F) = q at *
  generalize dwC (ordC C F) way v = D at *
  go_enter Try.func104, Try.ntmps104
  go_wp2_with (first
    | (go_at_call 117; refine (HL.out _).mono ?_; rintro e w' ⟨⟨l, rfl⟩, rfl⟩)
    | (go_at_call 116; refine (HI.out _).mono ?_; rintro e w1 ⟨rfl, L, h1, h2, h3⟩))
  go_end0
  exact ⟨rfl, L, h1, h2, h3⟩

end Go.Proofs.Ythlbekookpcacaa

/-
  Greatest sums of needs from behind. (Walks.)
-/
namespace Go.Proofs.Ythlbekookpcacaa
open Go.RowKit

set_option maxRecDepth 100000 in
set_option maxHeartbeats 8000000 in
theorem aheadB_any (h wd r : Nat) (gg : Nat → Nat → Nat) (F : Nat → Nat → Nat → Bool) (way : Nat) (hw : way < 2) (d : Nat → Nat) (gn cn : Nat) (w : World) (hr : r ≤ 9) (hr1 : 1 ≤ r) (G : Goes (F way) (firstQ F) r) (hd : ∀ a, a < r → d a ≤ 9)
    (B : Nat) (hBox : HeldB w B 101 #[fwV (dwC (ordC (planC h wd r gg) F) (way : Int) (.slice (some ⟨gn, 0, none⟩) r cn))]) (hN : CellsAt w (some ⟨gn, 0, none⟩) (ndL d (List.range r))) :
    Calls Try.prog 79 #[.agg (dwC (ordC (planC h wd r gg) F) (way : Int) (.slice (some ⟨gn, 0, none⟩) r cn)), .func (.func 106) #[] #[.pointer (some ⟨B, 0, none⟩)]] w
      fun e w' => PlRet w.heap.size (sumL (flipQ (F way)) d r) e w' ∧ Below w.heap.size w w' := by
  have hC := planC_size h wd r gg
  have hO := ordC_size hC F
  have HSO := Lib.hid (fun (X : Array Value) (g cap : Nat) (w : World) hbx hbg hB => sortB_any hC F (way : Int) (.slice (some ⟨gn, 0, none⟩) r cn) d X B r g cap (List.range r) w hr G.lin.flip hbx hbg hB (Ins.start _ _))
  have HCN := Lib.hid (fun (w : World) hc => cloneN_any d (List.range r) r gn cn w (by simp) hr1 hr hc)
  have HAP := Lib.hid (fun a b (w : World) (ha : a < 9) (hb : b < 9) => isApart_any hC F way hw (.slice (some ⟨gn, 0, none⟩) r cn) a b w ha hb)
  have hB := HeldB.new w 69 (dwC (ordC (planC h wd r gg) F) (way : Int) (.slice (some ⟨gn, 0, none⟩) r cn))
  have HK2 := Lib.hid ((dwC_lo (k := 2) (by rw [hO]; omega) (way : Int) (.slice (some ⟨gn, 0, none⟩) r cn)).trans (show (ordC (planC h wd r gg) F)[2]? = some (.int .i64 (r : Nat)) by rw [ordC_lo F (by rw [planC_size]; omega), planC_2]))
  have HKN := Lib.hid (dwC_needs hO (way : Int) (.slice (some ⟨gn, 0, none⟩) r cn))
  have HSZ := Lib.hid (dw_info hO (way : Int) (.slice (some ⟨gn, 0, none⟩) r cn))
  have HG := Lib.hid G.flip
  have HF := Lib.hid (fun b (hb : b < r) => G.flip.sum_few hd hb hr)
  have HIR := Lib.hid (fun a b (hq : flipQ (firstQ F) a b = true) (ha : a < r) (hb : b < r) => show (F way a b || F way b a) = flipQ (F way) a b by
    cases hba : F way a b
    · rw [Bool.false_or]; rfl
    · have h2 := (G.imp _ _ hba).2.2
      have := G.lin.trans _ _ _ ha hb ha h2 hq
      rw [G.lin.irr a ha] at this; cases this)
  have HD9 := Lib.hid hd
  have hb0 := below_alloc w (.cells (dwC (ordC (planC h wd r gg) F) (way : Int) (.slice (some ⟨gn, 0, none⟩) r cn)) 69)
  have c2 := (hB.cell 2).trans HK2.out
  have HB := Lib.hid hB; have HB0 := Lib.hid hb0; have HN := Lib.hid hN
  clear hC hO G hd hB hb0 hN
  have HBX := Lib.hid hBox; clear hBox
  generalize flipQ (firstQ F) = q at *
  generalize hff : flipQ (F way) = f at *
  generalize dwC (ordC (planC h wd r gg) F) (way : Int) (.slice (some ⟨gn, 0, none⟩) r cn) = D at *
  clear hff
  obtain ⟨im, hmi, hmz, hm1, hm2⟩ := info_parts Try.infoNum
  go_enter Try.func79, Try.ntmps79
  go_wp2_with (at_make; refine wpList_make_full _ rfl _ _ 31 rfl (w.heap.size + 1) 3 im (.int .i64 0) 1 Try.underlying31 hmi hmz hm1 .i64 .i64 _ _ r rfl rfl rfl rfl ?d2 ?d3 (by simp) ?_; rotate_left 2; intro w2 ho2 hg2; have bD2 := HB.out.kept hg2 (by simp); have kN2 := (bD2.cell 202).trans HKN.out)
  case d2 => rw [hm2]; omega
  case d3 => unfold maxLen; omega
  have hb2 : Below w.heap.size w w2 := HB0.out.trans ((below_of_grownBy hg2 (Nat.le_refl _) (by simp)).mono (by simp))
  have hz2 := held_zeros ho2
  simp only [World.size_alloc] at hz2
  have hlz := hz2.lt
  have hs2 : w.heap.size + 1 < w2.heap.size := hlz
  clear ho2 hg2 c2 kN2
  refine (HCN.out _ (HN.out.below hb2)).mono ?_
  rintro e w3 ⟨gl, cl, X, rfl, hgl, hcl, hX3, hb3⟩
  have bD3 := bD2.below hb3
  have hz3 := hz2.below hb3
  have hB3 := below_step hb2 hb2.size hb3
  clear bD2 hz2 hb2 HCN hb3
  go_wp2_with fail
  have hbl3 := HBX.out.lt
  refine (HSO.out X gl cl _ (HBX.out.below hB3) (by omega) hX3).mono ?_
  rintro e w4 ⟨rfl, L, hL, hX4, hg4⟩
  have st4 : AsSt w D (w.heap.size + 1) gl d X L (List.replicate r 0) w4 := ⟨bD3.kept hg4 (by simp only [ne_eq, Option.some.injEq]; omega), hz3.kept hg4 (by simp only [ne_eq, Option.some.injEq]; omega), hX4, hB3.trans (below_of_grownBy hg4 hB3.size (fun k hk => by cases hk; omega))⟩
  clear bD3 hz3 hB3 hX3 hX4 hg4 HSO HB HB0 HN
  have as4 : AhS f d r L 0 0 (List.replicate r 0) := AhS.start hL
  have HL := Lib.hid hL; clear hL
  have hgl2 : w.heap.size + 1 < gl := by omega
  go_wp2
  go_loopw [24] (fun vk wr => ∃ (k : Nat) (S : List Nat), k ≤ r ∧ vk = .int .i64 (k : Int) ∧ AsSt w D (w.heap.size + 1) gl d X L S wr ∧ AhS f d r L k 0 S) (fun vk _ => r - (intOf vk).toNat)
  case atStart => exact ⟨0, _, Nat.zero_le _, rfl, st4, as4⟩
  case round =>
    clear st4 as4
    obtain ⟨k, S, hk, rfl, hst, hah⟩ := hrel
    by_cases hkr : k < r
    · have hrg := nd_range hst.2.2.1 (i := k) (by rw [HL.out.len]; exact hkr)
      have hkc : (k : Int) ≤ (cl : Int) := by omega
      have hkrI : (k : Int) < (r : Int) := by omega
      have hbr := HL.out.lt k hkr
      have HAH := Lib.hid hah
      clear hah
      generalize hbb : L.getD k 0 = b at *
      have HBB := Lib.hid hbb; clear hbb
      have HGB := Lib.hid (show w.heap.size + 1 < wr.heap.size from hst.2.1.lt)
      have hst5 := hst.below (below_alloc wr (.cells (nd1 d b) 105))
      have bb5 := HeldB.new wr 105 (nd1 d b)
      clear hst
      go_wp2_with (refine wpList_load_mid rfl 105 _ rfl gl (k * 2) rfl (nd1 d b).toList _ hrg Try.underlying105 rfl Try.sizeNd ?_; simp only [nd1])
      unfold nd1 at hst5 bb5
      have hgb : w.heap.size + 1 < wr.heap.size := HGB.out
      generalize hW5 : wr.alloc (.cells #[.int .i64 ((b : Nat) : Int), .int .i64 ((d b : Nat) : Int)] 105) = W5 at *
      generalize wr.heap.size = gb at *
      clear hW5 hrg
      go_loopw [33] (fun vi wr => ∃ (i : Nat) (S : List Nat), i ≤ k ∧ vi = .int .i64 (i : Int) ∧ AsSt w D (w.heap.size + 1) gl d X L S wr ∧ HeldB wr gb 105 #[.int .i64 ((b : Nat) : Int), .int .i64 ((d b : Nat) : Int)] ∧ AhS f d r L k i S) (fun vi _ => k - (intOf vi).toNat)
      case atStart => exact ⟨0, S, Nat.zero_le _, rfl, hst5, bb5, HAH.out⟩
      case round =>
        clear hst5 bb5 HAH
        obtain ⟨i, S, hi, rfl, hst, hbx, hah⟩ := hrel
        by_cases hik : i < k
        · have hir : i < r := by omega
          have hrg := nd_range hst.2.2.1 (i := i) (by rw [HL.out.len]; exact hir)
          have har := HL.out.lt i hir
          have hqq := HL.out.ord i k hik hkr
          have hsa := Nat.le_trans (hah.few HG.out HL.out hkr (by omega) _ har) (HF.out _ har)
          have hsb := Nat.le_trans (hah.few HG.out HL.out hkr (by omega) b hbr) (HF.out b hbr)
          have hda := HD9.out _ har
          have hskip := fun h => hah.skip (i := i) h
          have hstep := fun h => hah.step HG.out.lin HL.out hkr hik h
          have hsl := hah.len
          rw [HBB.out] at hskip hstep hqq
          clear hah
          generalize L.getD i 0 = a at *
          have HSK := Lib.hid hskip; have HSP := Lib.hid hstep
          clear hskip hstep
          have HAX := Lib.hid (fun (w : World) => by have := HAP.out a b w (by omega) (by omega); rwa [HIR.out a b hqq har hbr] at this)
          have hst2 := hst.below (below_alloc wr (.cells (nd1 d a) 105))
          have bx2 := hbx.alloc (.cells (nd1 d a) 105)
          have ba2 := HeldB.new wr 105 (nd1 d a)
          unfold nd1 at hst2 bx2 ba2
          have cb0 := bx2.cell 0
          have ca0 := ba2.cell 0
          rw [show (#[.int .i64 ((b : Nat) : Int), .int .i64 ((d b : Nat) : Int)] : Array Value)[0]? = some (.int .i64 ((b : Nat) : Int)) from rfl] at cb0
          rw [show (#[.int .i64 ((a : Nat) : Int), .int .i64 ((d a : Nat) : Int)] : Array Value)[0]? = some (.int .i64 ((a : Nat) : Int)) from rfl] at ca0
          have hD2 : (wr.alloc (.cells #[.int .i64 ((a : Nat) : Int), .int .i64 ((d a : Nat) : Int)] 105)).heap[w.heap.size]? = some (.cells D 69 (0, 0)) := hst2.1
          have hikI : (i : Int) < (k : Int) := by omega
          have hirI : (i : Int) < (r : Int) := by omega
          have harI : (a : Int) < (r : Int) := by omega
          have hbrI : (b : Int) < (r : Int) := by omega
          have hga : w.heap.size + 1 < wr.heap.size := hst.2.1.lt
          cases hfab : f a b
          · rw [hfab] at HAX
            have hSK := Lib.hid (HSK.out hfab)
            clear hst hbx HSK HSP hfab hsa hsb
            go_wp2_with (first
              | (refine wpList_load_mid rfl 105 _ rfl gl (i * 2) rfl (nd1 d a).toList _ hrg Try.underlying105 rfl Try.sizeNd ?_; simp only [nd1])
              | (refine wpList_load_row rfl 69 _ rfl w.heap.size rfl 69 D (0, 0) _ hD2 Try.underlying69 rfl HSZ.out ?_)
              | (go_at_call 105; refine (HAX.out _).mono ?_; rintro e w7 ⟨rfl, hb7⟩))
            go_roundw
            case rel => exact ⟨i + 1, S, by omega, by go_num, hst2.below hb7, bx2.below hb7, hSK.out⟩
            case measure => simp [intOf]; omega
          · rw [hfab] at HAX
            have hSP := Lib.hid (HSP.out hfab)
            clear hst hbx HSK HSP hfab
            go_wp2_with (first
              | (refine wpList_load_mid rfl 105 _ rfl gl (i * 2) rfl (nd1 d a).toList _ hrg Try.underlying105 rfl Try.sizeNd ?_; simp only [nd1])
              | (refine wpList_load_row rfl 69 _ rfl w.heap.size rfl 69 D (0, 0) _ hD2 Try.underlying69 rfl HSZ.out ?_)
              | (go_at_call 105; refine (HAX.out _).mono ?_; rintro e w7 ⟨rfl, hb7⟩))
            have st7 := hst2.below hb7
            have bx7 := bx2.below hb7
            have ba7 := ba2.below hb7
            generalize wr.heap.size = ga at *
            clear hst2 bx2 ba2 cb0 ca0 hD2 hb7 hrg
            have cb0 := bx7.cell 0
            have ca0 := ba7.cell 0
            have ca1 := ba7.cell 1
            rw [show (#[.int .i64 ((b : Nat) : Int), .int .i64 ((d b : Nat) : Int)] : Array Value)[0]? = some (.int .i64 ((b : Nat) : Int)) from rfl] at cb0
            rw [show (#[.int .i64 ((a : Nat) : Int), .int .i64 ((d a : Nat) : Int)] : Array Value)[0]? = some (.int .i64 ((a : Nat) : Int)) from rfl] at ca0
            rw [show (#[.int .i64 ((a : Nat) : Int), .int .i64 ((d a : Nat) : Int)] : Array Value)[1]? = some (.int .i64 ((d a : Nat) : Int)) from rfl] at ca1
            have kb := (st7.2.1.cell b).trans (setsV_at (by rw [hsl]; exact hbr))
            have ka := (st7.2.1.cell a).trans (setsV_at (by rw [hsl]; exact har))
            have fb := st7.2.1.frozen b
            obtain ⟨mm, hmm⟩ : ∃ mm, mm = max (S.getD b 0) (S.getD a 0 + d a) := ⟨_, rfl⟩
            have hs8 := st7.put (by omega) (by omega) b mm rfl
            have bx8 := bx7.other (a := ⟨w.heap.size + 1, b, none⟩) (by simp; omega) (.int .i64 (mm : Nat))
            rw [← hmm] at hSP
            obtain ⟨y, hy⟩ : ∃ y, y = S.getD b 0 := ⟨_, rfl⟩
            obtain ⟨x, hx⟩ : ∃ x, x = S.getD a 0 := ⟨_, rfl⟩
            rw [← hy] at kb hmm hsb
            rw [← hx] at ka hmm hsa
            have HMX := Lib.hid (show (if (y : Int) < (x : Int) + (d a : Int) then (x : Int) + (d a : Int) else (y : Int)) = (mm : Int) by rw [max_sum, hmm])
            have hs8 := Lib.hid hs8; have bx8 := Lib.hid bx8
            clear hy hx hmm st7 bx7 ba7
            generalize d a = e at *
            go_wp2
            go_region
            rw [HMX.out]
            go_wp2
            go_roundw
            case rel => exact ⟨i + 1, _, by omega, by go_num, hs8.out.below (below_drewN _ _ 1), bx8.out.drew, hSP.out⟩
            case measure => simp [intOf]; omega
        · obtain rfl : i = k := by omega
          have hn := hah.next HG.out HL.out hkr
          clear hah
          go_wp2
          go_roundw
          case rel => exact ⟨i + 1, S, by omega, by go_num, hst, hn⟩
          case measure => simp [intOf]; omega
    · obtain rfl : k = r := by omega
      have hd := hah.done HL.out
      subst hd
      go_wp2
      go_ret
      refine ⟨⟨w.heap.size + 1, by omega, ?_, hst.2.1⟩, hst.2.2.2⟩
      rw [sumL_len]; rfl

end Go.Proofs.Ythlbekookpcacaa

/-
  The program's slack of a drawing. (Walks.)
-/
namespace Go.Proofs.Ythlbekookpcacaa
open Go.RowKit

theorem thru_le {f q : Nat → Nat → Bool} {r : Nat} {d : Nat → Nat} (G : Goes f q r) : ∀ k a, a < r → sumS f d r a + d a + wK (flipQ f) d r k a ≤ endS f d r
  | 0, a, ha => (eM_le (v := fun a => sumS f d r a + d a) r).1 (Nat.le_refl _) a ha
  | k + 1, a, ha => by
    have hv := gM_some (f := flipQ f) (v := fun b => wK (flipQ f) d r k b + d b) (b := a) r
    rw [wK_succ]
    rcases hv with h0 | ⟨b, hb, hf, he⟩
    · rw [h0]; exact (eM_le (v := fun a => sumS f d r a + d a) r).1 (Nat.le_refl _) a ha
    · rw [he]
      have h1 := thru_le (d := d) G k b hb
      have h2 := G.sum_up (d := d) (show f a b = true from hf)
      omega
/-- the slack of a room -/
def slN (f : Nat → Nat → Bool) (d : Nat → Nat) (r a : Nat) : Nat := endS f d r - sumS f d r a - d a - sumS (flipQ f) d r a
def slL (f : Nat → Nat → Bool) (d : Nat → Nat) (r : Nat) : List Nat := (List.range r).map (slN f d r)
theorem slL_len (f : Nat → Nat → Bool) (d : Nat → Nat) (r : Nat) : (slL f d r).length = r := by simp [slL]
theorem slN_int {f q : Nat → Nat → Bool} {r a : Nat} {d : Nat → Nat} (G : Goes f q r) (ha : a < r) : (endS f d r : Int) - (sumS f d r a : Int) - (d a : Int) - (sumS (flipQ f) d r a : Int) = ((slN f d r a : Nat) : Int) := by
  have := thru_le (d := d) G r a ha
  unfold slN sumS at *
  omega
/-- the slack of the first rooms -/
def slK (sl : Nat → Nat) (r k : Nat) : List Nat := (List.range r).map fun a => if a < k then sl a else 0
theorem slK_len (sl : Nat → Nat) (r k : Nat) : (slK sl r k).length = r := by simp [slK]
theorem slK_at {sl : Nat → Nat} {r k a : Nat} (ha : a < r) : (slK sl r k).getD a 0 = if a < k then sl a else 0 := by simp [slK, ha]
theorem slK_zero (sl : Nat → Nat) (r : Nat) : slK sl r 0 = List.replicate r 0 :=
  list_getD_ext (by simp [slK]) fun b hb => by rw [slK_len] at hb; rw [slK_at hb, zeros_at]; rfl
theorem slK_all (sl : Nat → Nat) (r : Nat) : slK sl r r = (List.range r).map sl :=
  list_getD_ext (by simp [slK]) fun b hb => by rw [slK_len] at hb; rw [slK_at hb, if_pos hb]; simp [hb]
theorem slK_put (sl : Nat → Nat) {r k : Nat} (hk : k < r) : (slK sl r k).set k (sl k) = slK sl r (k + 1) :=
  list_getD_ext (by rw [List.length_set, slK_len, slK_len]) fun b hb => by
    rw [List.length_set, slK_len] at hb
    rw [getD_set _ _ _ _ (by rw [slK_len]; exact hk), slK_at hb, slK_at hb]
    by_cases e : b = k
    · subst e; rw [if_pos rfl, if_pos (by omega)]
    · rw [if_neg e]
      by_cases hl : b < k
      · rw [if_pos hl, if_pos (by omega)]
      · rw [if_neg hl, if_neg (by omega)]
theorem s_go {P : Program} {ops : Array Oper} {Q : Exit → Act → World → Prop} {i : Nat} {o : Oper} {K : Act → World → Prop} {a : Act} {w : World} (hi : ops[i]? = some o) (hw : Region.wanted o (yielded ops a.tmps) = true) (h : o.wp P a w K Q) : wpOp P ops Q i K a w := by
  unfold wpOp
  simp only [hi, hw, if_true]
  exact .inl h
set_option maxRecDepth 100000 in
set_option maxHeartbeats 8000000 in
theorem slack_any (h wd r : Nat) (gg : Nat → Nat → Nat) (F : Nat → Nat → Nat → Bool) (way : Nat) (hw : way < 2) (d : Nat → Nat) (gn cn : Nat) (w : World) (hr : r ≤ 9) (hr1 : 1 ≤ r) (G : Goes (F way) (firstQ F) r) (hd : ∀ a, a < r → d a ≤ 9)
    (hN : CellsAt w (some ⟨gn, 0, none⟩) (ndL d (List.range r))) :
    Calls Try.prog 52 #[.agg (dwC (ordC (planC h wd r gg) F) (way : Int) (.slice (some ⟨gn, 0, none⟩) r cn))] w
      fun e w' => PlRet w.heap.size (slL (F way) d r) e w' ∧ Below w.heap.size w w' := by
  have hC := planC_size h wd r gg
  have hO := ordC_size hC F
  have HAH := Lib.hid (fun (w : World) hN => aheadF_any h wd r gg F way hw d gn cn w hr hr1 G hd hN)
  have HBH := Lib.hid (fun (B : Nat) (w : World) hB hN => aheadB_any h wd r gg F way hw d gn cn w hr hr1 G hd B hB hN)
  have HLE := Lib.hid (fun (w : World) hN => least_any h wd r gg F way hw d gn cn w hr hr1 G hd hN)
  have HOP := Lib.hid (fun (w : World) => opposite_any (dwC (ordC (planC h wd r gg) F) (way : Int) (.slice (some ⟨gn, 0, none⟩) r cn)) w)
  have hB := HeldB.new w 69 (dwC (ordC (planC h wd r gg) F) (way : Int) (.slice (some ⟨gn, 0, none⟩) r cn))
  have HK2 := Lib.hid ((dwC_lo (k := 2) (by rw [hO]; omega) (way : Int) (.slice (some ⟨gn, 0, none⟩) r cn)).trans (show (ordC (planC h wd r gg) F)[2]? = some (.int .i64 (r : Nat)) by rw [ordC_lo F (by rw [planC_size]; omega), planC_2]))
  have HKN := Lib.hid (dwC_needs hO (way : Int) (.slice (some ⟨gn, 0, none⟩) r cn))
  have HSZ := Lib.hid (dw_info hO (way : Int) (.slice (some ⟨gn, 0, none⟩) r cn))
  have HSI := Lib.hid (fun a (ha : a < r) => slN_int (d := d) G ha)
  have HA1 := Lib.hid (fun b (hb : b < r) => show (setsV (sumL (F way) d r))[b]? = some (.int .i64 ((sumS (F way) d r b : Nat) : Int)) by rw [setsV_at (by rw [sumL_len]; exact hb), sumL_at hb])
  have HA2 := Lib.hid (fun b (hb : b < r) => show (setsV (sumL (flipQ (F way)) d r))[b]? = some (.int .i64 ((sumS (flipQ (F way)) d r b : Nat) : Int)) by rw [setsV_at (by rw [sumL_len]; exact hb), sumL_at hb])
  have HU := Lib.hid (fun b (hb : b < r) => (⟨G.sum_few hd hb hr, G.flip.sum_few hd hb hr, hd b hb⟩ : sumS (F way) d r b ≤ 72 ∧ sumS (flipQ (F way)) d r b ≤ 72 ∧ d b ≤ 9))
  have HE81 := Lib.hid (show endS (F way) d r ≤ 81 from (eM_le r).2 fun a ha => by have := G.sum_few hd ha hr; have := hd a ha; omega)
  have HL1 := Lib.hid (sumL_len (F way) d r); have HL2 := Lib.hid (sumL_len (flipQ (F way)) d r)
  have hb0 := below_alloc w (.cells (dwC (ordC (planC h wd r gg) F) (way : Int) (.slice (some ⟨gn, 0, none⟩) r cn)) 69)
  have hN1 := hN.below hb0
  unfold fwV at HOP HBH
  have HSL := Lib.hid (show slL (F way) d r = (List.range r).map (slN (F way) d r) from rfl)
  clear hC hO G hd hN
  generalize hs1 : sumS (F way) d r = su at *
  generalize hs2 : sumS (flipQ (F way)) d r = sv at *
  generalize hsl : slN (F way) d r = sl at *
  generalize sumL (F way) d r = S1 at *
  generalize sumL (flipQ (F way)) d r = S2 at *
  generalize endS (F way) d r = es at *
  generalize slL (F way) d r = SL at *
  generalize dwC (ordC (planC h wd r gg) F) (way : Int) (.slice (some ⟨gn, 0, none⟩) r cn) = D at *
  clear hs1 hs2 hsl
  have HB := Lib.hid hB
  have hW1 : (w.alloc (.cells D 69)).heap[w.heap.size]? = some (.cells D 69 (0, 0)) := hB
  have HN1 := Lib.hid hN1; have HB0 := Lib.hid hb0
  clear hB hb0 hN1
  obtain ⟨im, hmi, hmz, hm1, hm2⟩ := info_parts Try.infoNum
  go_enter Try.func52, Try.ntmps52
  go_wp2_with (refine wpList_load_row rfl 69 _ rfl w.heap.size rfl 69 D (0, 0) _ hW1 Try.underlying69 rfl HSZ.out ?_)
  refine wp_region_held (S := fun W => HeldB W w.heap.size 69 D ∧ CellsAt W (some ⟨gn, 0, none⟩) (ndL d (List.range r)) ∧ Below w.heap.size w W) (by kernel_rfl) ?_
  have s0 : HeldB ({ (w.alloc (.cells D 69)) with drawn := (w.alloc (.cells D 69)).drawn + 1 } : World) w.heap.size 69 D ∧ CellsAt ({ (w.alloc (.cells D 69)) with drawn := (w.alloc (.cells D 69)).drawn + 1 } : World) (some ⟨gn, 0, none⟩) (ndL d (List.range r)) ∧ Below w.heap.size w ({ (w.alloc (.cells D 69)) with drawn := (w.alloc (.cells D 69)).drawn + 1 } : World) :=
    ⟨HB.out.below (below_drewN _ _ 1), HN1.out.below (below_drewN _ _ 1), HB0.out.trans (below_drewN _ _ 1)⟩
  generalize ({ (w.alloc (.cells D 69)) with drawn := (w.alloc (.cells D 69)).drawn + 1 } : World) = W0 at *
  change Go.wpAnyH Try.prog Region.Mode.any _ _ _ 9 (Array.replicate 9 false) _ _
  refine wpAnyH_take (i := 0) (v := .agg D) rfl (by kernel_rfl) (by kernel_rfl) (by kernel_rfl) (fun _ _ _ h => h) (yieldsIf_load_row (by rfl) 69 _ rfl w.heap.size (by rfl) 69 D _ (fun W h => h.1) Try.underlying69 rfl HSZ.out) s0 ?_
  refine wpAnyH_take (i := 1) (v := .func (.func 78) #[.agg D] #[]) rfl (by kernel_rfl) (by kernel_rfl) (by kernel_rfl) (fun _ _ _ h => h) (Yields.yieldsIf (Or.inl ⟨by rfl, fun w => by go_simp⟩)) s0 ?_
  try simp only [List.getElem_toArray, List.getElem_cons_succ, List.getElem_cons_zero, Act.put, List.setIfInBounds_toArray, List.set_cons_succ, List.set_cons_zero]
  refine wpAnyH_take (i := 3) (v := .agg D) rfl (by kernel_rfl) (by kernel_rfl) (by kernel_rfl) (fun _ _ _ h => h) (yieldsIf_load_row (by rfl) 69 _ rfl w.heap.size (by rfl) 69 D _ (fun W h => h.1) Try.underlying69 rfl HSZ.out) s0 ?_
  refine wpAnyH_take (i := 4) (v := .func (.func 78) #[.agg D] #[]) rfl (by kernel_rfl) (by kernel_rfl) (by kernel_rfl) (fun _ _ _ h => h) (Yields.yieldsIf (Or.inl ⟨by rfl, fun w => by go_simp⟩)) s0 ?_
  try simp only [List.getElem_toArray, List.getElem_cons_succ, List.getElem_cons_zero, Act.put, List.setIfInBounds_toArray, List.set_cons_succ, List.set_cons_zero]
  refine wpAnyH_all (rs := [2]) (by kernel_rfl) (by decide) ?_
  intro q hq
  simp only [List.mem_cons, List.not_mem_nil, or_false] at hq
  subst hq
  refine s_go rfl (by rfl) ?_
  unfold Oper.wp
  go_simp
  refine (HAH.out W0 s0.2.1).mono ?_
  rintro e W1 ⟨⟨g1, hg1, rfl, hA⟩, hb1⟩
  have s1 : HeldB W1 w.heap.size 69 D ∧ CellsAt W1 (some ⟨gn, 0, none⟩) (ndL d (List.range r)) ∧ Below w.heap.size w W1 := ⟨s0.1.below hb1, s0.2.1.below hb1, below_step s0.2.2 s0.2.2.size hb1⟩
  rw [HL1.out]
  have hgl1 : w.heap.size < g1 := Nat.lt_of_lt_of_le s0.1.lt hg1
  clear hb1 HAH hg1
  refine ⟨s1, ?_⟩
  try simp only [List.getElem_toArray, List.getElem_cons_succ, List.getElem_cons_zero, Act.put, List.setIfInBounds_toArray, List.set_cons_succ, List.set_cons_zero]
  refine wpAnyH_all (rs := [5]) (by kernel_rfl) (by decide) ?_
  intro q hq
  simp only [List.mem_cons, List.not_mem_nil, or_false] at hq
  subst hq
  refine s_go rfl (by rfl) ?_
  unfold Oper.wp
  go_simp
  refine (HOP.out W1).mono ?_
  rintro e W2 ⟨rfl, hX, hb2⟩
  have s2 : HeldB W2 w.heap.size 69 D ∧ CellsAt W2 (some ⟨gn, 0, none⟩) (ndL d (List.range r)) ∧ Below w.heap.size w W2 := ⟨s1.1.below hb2, s1.2.1.below hb2, below_step s1.2.2 s1.2.2.size hb2⟩
  replace hA := hA.below hb2
  generalize W1.heap.size = bx at *
  clear hb2 HOP s1
  refine ⟨s2, ?_⟩
  try simp only [List.getElem_toArray, List.getElem_cons_succ, List.getElem_cons_zero, Act.put, List.setIfInBounds_toArray, List.set_cons_succ, List.set_cons_zero]
  refine wpAnyH_all (rs := [6]) (by kernel_rfl) (by decide) ?_
  intro q hq
  simp only [List.mem_cons, List.not_mem_nil, or_false] at hq
  subst hq
  refine s_go rfl (by rfl) ?_
  unfold Oper.wp
  go_simp
  refine (HBH.out bx W2 hX s2.2.1).mono ?_
  rintro e W3 ⟨⟨g2, hg2, rfl, hA2⟩, hb3⟩
  have s3 : HeldB W3 w.heap.size 69 D ∧ CellsAt W3 (some ⟨gn, 0, none⟩) (ndL d (List.range r)) ∧ Below w.heap.size w W3 := ⟨s2.1.below hb3, s2.2.1.below hb3, below_step s2.2.2 s2.2.2.size hb3⟩
  replace hA := hA.below hb3
  rw [HL2.out]
  have hgl2 : w.heap.size < g2 := Nat.lt_of_lt_of_le s2.1.lt hg2
  clear hb3 HBH s2 hX hg2
  refine ⟨s3, ?_⟩
  try simp only [List.getElem_toArray, List.getElem_cons_succ, List.getElem_cons_zero, Act.put, List.setIfInBounds_toArray, List.set_cons_succ, List.set_cons_zero]
  refine wpAnyH_take (i := 7) (v := .slice (some ⟨g1, 0, none⟩) r r) rfl (by kernel_rfl) (by kernel_rfl) (by kernel_rfl) (fun _ _ _ h => h) (Yields.yieldsIf (Or.inl ⟨by rfl, fun w => by go_simp⟩)) s3 ?_
  refine wpAnyH_take (i := 8) (v := .slice (some ⟨g2, 0, none⟩) r r) rfl (by kernel_rfl) (by kernel_rfl) (by kernel_rfl) (fun _ _ _ h => h) (Yields.yieldsIf (Or.inl ⟨by rfl, fun w => by go_simp⟩)) s3 ?_
  refine wpAnyH_done (by kernel_rfl) ?_ _
  try simp only [List.getElem_toArray, List.getElem_cons_succ, List.getElem_cons_zero, Act.put, List.setIfInBounds_toArray, List.set_cons_succ, List.set_cons_zero]
  obtain ⟨hD3, hN3, hB3⟩ := s3
  have hW3 : W3.heap[w.heap.size]? = some (.cells D 69 (0, 0)) := hD3
  clear s0 hW1 HB HN1 HB0
  go_wp2_with (first
    | (refine wpList_load_row rfl 69 _ rfl w.heap.size rfl 69 D (0, 0) _ hW3 Try.underlying69 rfl HSZ.out ?_)
    | (go_at_call 81; refine (HLE.out _ hN3).mono ?_; rintro e W4 ⟨rfl, hb4⟩; have hD4 := hD3.below hb4; have c2 := (hD4.cell 2).trans HK2.out)
    | (at_make; refine wpList_make_full _ rfl _ _ 31 rfl W4.heap.size 3 im (.int .i64 0) 1 Try.underlying31 hmi hmz hm1 .i64 .i64 _ _ r rfl rfl rfl rfl ?d2 ?d3 (Nat.le_refl _) ?_; rotate_left 2; intro W5 ho5 hg5; have hD5 := hD4.kept hg5 (by simp); have kN5 := (hD5.cell 202).trans HKN.out))
  case d2 => rw [hm2]; omega
  case d3 => unfold maxLen; omega
  have hz5 := held_zeros ho5
  have hA5 := (hA.below hb4).kept hg5 (by simp)
  have hE5 := (hA2.below hb4).kept hg5 (by simp)
  have hN5 := (hN3.below hb4).below (below_of_grownBy hg5 (Nat.le_refl _) (by simp))
  have hB4 := below_step hB3 hB3.size hb4
  have hB5 := hB4.trans ((below_of_grownBy hg5 (Nat.le_refl _) (by simp)).mono hB4.size)
  have hg14 : g1 < W4.heap.size := (hA.below hb4).lt
  have hg24 : g2 < W4.heap.size := (hA2.below hb4).lt
  have hws := hB4.size
  have hngs : gn ≠ W4.heap.size := by
    obtain ⟨b, o, e, hcc⟩ := (hN3.below hb4) 0 (.int .i64 ((if 0 % 2 = 0 then (List.range r).getD (0 / 2) 0 else d ((List.range r).getD (0 / 2) 0) : Nat) : Int)) (by have := ndC_at (d := d) (L := List.range r) (k := 0) (by rw [List.length_range]; omega); unfold ndC at this; rw [List.getElem?_toArray] at this; exact this)
    cases e
    have := block_lt_of_cell hcc
    simp at this
    omega
  rw [show List.replicate r 0 = slK sl r 0 from (slK_zero sl r).symm] at hz5
  clear ho5 hg5 hb4 hA hA2 hN3 hB3 hB4 hD3 hW3 hD4 c2 hD5 kN5 HLE HSZ HK2 HKN
  generalize W4.heap.size = gs at *
  go_loopw [29] (fun vk wr => ∃ (k : Nat), k ≤ r ∧ vk = .int .i64 (k : Int) ∧ HeldB wr gs 3 (setsV (slK sl r k)) ∧ HeldB wr g1 3 (setsV S1) ∧ HeldB wr g2 3 (setsV S2) ∧ CellsAt wr (some ⟨gn, 0, none⟩) (ndL d (List.range r)) ∧ Below w.heap.size w wr) (fun vk _ => r - (intOf vk).toNat)
  case atStart => exact ⟨0, Nat.zero_le _, rfl, hz5, hA5, hE5, hN5, hB5⟩
  case round =>
    clear hz5 hA5 hE5 hN5 hB5
    obtain ⟨k, hk, rfl, hS, hA, hE, hN, hB⟩ := hrel
    by_cases hkr : k < r
    · have hrg := nd_cells_range hN (i := k) (by rw [List.length_range]; exact hkr)
      rw [range_at hkr] at hrg
      have hkrI : (k : Int) < (r : Int) := by omega
      have hS2 := hS.alloc (.cells (nd1 d k) 105)
      have hA2 := hA.alloc (.cells (nd1 d k) 105)
      have hE2 := hE.alloc (.cells (nd1 d k) 105)
      have hN2 := hN.below (below_alloc wr (.cells (nd1 d k) 105))
      have hB2 := hB.alloc hB.size (.cells (nd1 d k) 105)
      have bk := HeldB.new wr 105 (nd1 d k)
      have ck0 := bk.cell 0
      have ck1 := bk.cell 1
      rw [show (nd1 d k)[0]? = some (.int .i64 ((k : Nat) : Int)) from rfl] at ck0
      rw [show (nd1 d k)[1]? = some (.int .i64 ((d k : Nat) : Int)) from rfl] at ck1
      have c1 := (hA2.cell k).trans (HA1.out k hkr)
      have c2 := (hE2.cell k).trans (HA2.out k hkr)
      have c3 := (hS2.cell k).trans (setsV_at (by rw [slK_len]; exact hkr))
      have f3 := hS2.frozen k
      obtain ⟨u1, u2, u3⟩ := HU.out k hkr
      have hes := HE81.out
      have hS3 := Lib.hid (slK_put sl hkr)
      have HVI := Lib.hid (HSI.out k hkr)
      have hput := hS2.set k (.int .i64 ((sl k : Nat) : Int))
      rw [setsV_put, slK_put sl hkr] at hput
      have hA3 := hA2.other (a := ⟨gs, k, none⟩) (by simp; omega) (.int .i64 ((sl k : Nat) : Int))
      have hE3 := hE2.other (a := ⟨gs, k, none⟩) (by simp; omega) (.int .i64 ((sl k : Nat) : Int))
      have hB3 := hB2.setCell (p := ⟨gs, k, none⟩) hws (.int .i64 ((sl k : Nat) : Int))
      have hN3 := hN2.grown (gbCell _ gs k (.int .i64 ((sl k : Nat) : Int))) (fun a ha e => by cases ha; cases e; exact hngs rfl)
      have HP := Lib.hid hput; have HPA := Lib.hid hA3; have HPE := Lib.hid hE3; have HPB := Lib.hid hB3; have HPN := Lib.hid hN3
      clear hput hA3 hE3 hB3 hN3 hS3 hS hA hE hN hB
      unfold nd1 at HP HPA HPE HPB HPN hS2 hA2 hE2 hN2 hB2 ck0 ck1 c1 c2 c3 f3
      generalize (slK sl r k).getD k 0 = z at *
      clear hS2 hA2 hE2 hN2 hB2 bk
      generalize su k = x1 at *
      generalize sv k = x2 at *
      go_wp2_with (refine wpList_load_mid rfl 105 _ rfl gn (k * 2) rfl (nd1 d k).toList _ hrg Try.underlying105 rfl Try.sizeNd ?_; simp only [nd1])
      go_region
      rw [HVI.out]
      go_wp2
      go_roundw
      case rel => exact ⟨k + 1, by omega, by go_num, HP.out.below (below_drewN _ _ 1), HPA.out.below (below_drewN _ _ 1), HPE.out.below (below_drewN _ _ 1), HPN.out.below (below_drewN _ _ 1), HPB.out.trans (below_drewN _ _ 1)⟩
      case measure => simp [intOf]; omega
    · obtain rfl : k = r := by omega
      clear hA hE hN
      go_wp2
      go_ret
      rw [slK_all] at hS
      refine ⟨⟨gs, hws, ?_, by rw [HSL.out]; exact hS⟩, hB⟩
      rw [HSL.out, List.length_map, List.length_range]; rfl

end Go.Proofs.Ythlbekookpcacaa

/-
  The program's slack of a drawing of nothing, and of a plan. (Walks.)
-/
namespace Go.Proofs.Ythlbekookpcacaa
open Go.RowKit

set_option maxRecDepth 100000 in
set_option maxHeartbeats 8000000 in
theorem slackNil_any (w : World) :
    Calls Try.prog 52 #[.agg noDw] w
      fun e w' => PlRet w.heap.size [] e w' ∧ Below w.heap.size w w' := by
  have HAH := Lib.hid (fun fv w => aheadNil_any fv w)
  have HLE := Lib.hid (fun w => leastNil_any w)
  have HOP := Lib.hid (fun (w : World) => opposite_any noDw w)
  have hB := HeldB.new w 69 noDw
  have HK2 := Lib.hid noDw_2
  have HKN := Lib.hid noDw_n
  have HSZ := Lib.hid noDw_info
  have hb0 := below_alloc w (.cells noDw 69)
  unfold fwV at HOP
  generalize noDw = D at *
  have HB := Lib.hid hB
  have hW1 : (w.alloc (.cells D 69)).heap[w.heap.size]? = some (.cells D 69 (0, 0)) := hB
  have HB0 := Lib.hid hb0
  clear hB hb0
  obtain ⟨im, hmi, hmz, hm1, hm2⟩ := info_parts Try.infoNum
  go_enter Try.func52, Try.ntmps52
  go_wp2_with (refine wpList_load_row rfl 69 _ rfl w.heap.size rfl 69 D (0, 0) _ hW1 Try.underlying69 rfl HSZ.out ?_)
  refine wp_region_held (S := fun W => HeldB W w.heap.size 69 D ∧ Below w.heap.size w W) (by kernel_rfl) ?_
  have s0 : HeldB ({ (w.alloc (.cells D 69)) with drawn := (w.alloc (.cells D 69)).drawn + 1 } : World) w.heap.size 69 D ∧ Below w.heap.size w ({ (w.alloc (.cells D 69)) with drawn := (w.alloc (.cells D 69)).drawn + 1 } : World) :=
    ⟨HB.out.below (below_drewN _ _ 1), HB0.out.trans (below_drewN _ _ 1)⟩
  generalize ({ (w.alloc (.cells D 69)) with drawn := (w.alloc (.cells D 69)).drawn + 1 } : World) = W0 at *
  change Go.wpAnyH Try.prog Region.Mode.any _ _ _ 9 (Array.replicate 9 false) _ _
  refine wpAnyH_take (i := 0) (v := .agg D) rfl (by kernel_rfl) (by kernel_rfl) (by kernel_rfl) (fun _ _ _ h => h) (yieldsIf_load_row (by rfl) 69 _ rfl w.heap.size (by rfl) 69 D _ (fun W h => h.1) Try.underlying69 rfl HSZ.out) s0 ?_
  refine wpAnyH_take (i := 1) (v := .func (.func 78) #[.agg D] #[]) rfl (by kernel_rfl) (by kernel_rfl) (by kernel_rfl) (fun _ _ _ h => h) (Yields.yieldsIf (Or.inl ⟨by rfl, fun w => by go_simp⟩)) s0 ?_
  try simp only [List.getElem_toArray, List.getElem_cons_succ, List.getElem_cons_zero, Act.put, List.setIfInBounds_toArray, List.set_cons_succ, List.set_cons_zero]
  refine wpAnyH_take (i := 3) (v := .agg D) rfl (by kernel_rfl) (by kernel_rfl) (by kernel_rfl) (fun _ _ _ h => h) (yieldsIf_load_row (by rfl) 69 _ rfl w.heap.size (by rfl) 69 D _ (fun W h => h.1) Try.underlying69 rfl HSZ.out) s0 ?_
  refine wpAnyH_take (i := 4) (v := .func (.func 78) #[.agg D] #[]) rfl (by kernel_rfl) (by kernel_rfl) (by kernel_rfl) (fun _ _ _ h => h) (Yields.yieldsIf (Or.inl ⟨by rfl, fun w => by go_simp⟩)) s0 ?_
  try simp only [List.getElem_toArray, List.getElem_cons_succ, List.getElem_cons_zero, Act.put, List.setIfInBounds_toArray, List.set_cons_succ, List.set_cons_zero]
  refine wpAnyH_all (rs := [2]) (by kernel_rfl) (by decide) ?_
  intro q hq
  simp only [List.mem_cons, List.not_mem_nil, or_false] at hq
  subst hq
  refine s_go rfl (by rfl) ?_
  unfold Oper.wp
  go_simp
  refine (HAH.out _ W0).mono ?_
  rintro e W1 ⟨⟨g1, hg1, rfl, hA⟩, hb1⟩
  have s1 : HeldB W1 w.heap.size 69 D ∧ Below w.heap.size w W1 := ⟨s0.1.below hb1, below_step s0.2 s0.2.size hb1⟩
  have hgl1 : w.heap.size < g1 := Nat.lt_of_lt_of_le s0.1.lt hg1
  clear hb1 hg1
  refine ⟨s1, ?_⟩
  try simp only [List.getElem_toArray, List.getElem_cons_succ, List.getElem_cons_zero, Act.put, List.setIfInBounds_toArray, List.set_cons_succ, List.set_cons_zero]
  refine wpAnyH_all (rs := [5]) (by kernel_rfl) (by decide) ?_
  intro q hq
  simp only [List.mem_cons, List.not_mem_nil, or_false] at hq
  subst hq
  refine s_go rfl (by rfl) ?_
  unfold Oper.wp
  go_simp
  refine (HOP.out W1).mono ?_
  rintro e W2 ⟨rfl, hX, hb2⟩
  have s2 : HeldB W2 w.heap.size 69 D ∧ Below w.heap.size w W2 := ⟨s1.1.below hb2, below_step s1.2 s1.2.size hb2⟩
  replace hA := hA.below hb2
  generalize W1.heap.size = bx at *
  clear hb2 HOP s1
  refine ⟨s2, ?_⟩
  try simp only [List.getElem_toArray, List.getElem_cons_succ, List.getElem_cons_zero, Act.put, List.setIfInBounds_toArray, List.set_cons_succ, List.set_cons_zero]
  refine wpAnyH_all (rs := [6]) (by kernel_rfl) (by decide) ?_
  intro q hq
  simp only [List.mem_cons, List.not_mem_nil, or_false] at hq
  subst hq
  refine s_go rfl (by rfl) ?_
  unfold Oper.wp
  go_simp
  refine (HAH.out _ W2).mono ?_
  rintro e W3 ⟨⟨g2, hg2, rfl, hA2⟩, hb3⟩
  have s3 : HeldB W3 w.heap.size 69 D ∧ Below w.heap.size w W3 := ⟨s2.1.below hb3, below_step s2.2 s2.2.size hb3⟩
  replace hA := hA.below hb3
  have hgl2 : w.heap.size < g2 := Nat.lt_of_lt_of_le s2.1.lt hg2
  clear hb3 HAH s2 hX hg2
  refine ⟨s3, ?_⟩
  try simp only [List.getElem_toArray, List.getElem_cons_succ, List.getElem_cons_zero, Act.put, List.setIfInBounds_toArray, List.set_cons_succ, List.set_cons_zero]
  refine wpAnyH_take (i := 7) (v := .slice (some ⟨g1, 0, none⟩) 0 0) rfl (by kernel_rfl) (by kernel_rfl) (by kernel_rfl) (fun _ _ _ h => h) (Yields.yieldsIf (Or.inl ⟨by rfl, fun w => by go_simp⟩)) s3 ?_
  refine wpAnyH_take (i := 8) (v := .slice (some ⟨g2, 0, none⟩) 0 0) rfl (by kernel_rfl) (by kernel_rfl) (by kernel_rfl) (fun _ _ _ h => h) (Yields.yieldsIf (Or.inl ⟨by rfl, fun w => by go_simp⟩)) s3 ?_
  refine wpAnyH_done (by kernel_rfl) ?_ _
  try simp only [List.getElem_toArray, List.getElem_cons_succ, List.getElem_cons_zero, Act.put, List.setIfInBounds_toArray, List.set_cons_succ, List.set_cons_zero]
  obtain ⟨hD3, hB3⟩ := s3
  have hW3 : W3.heap[w.heap.size]? = some (.cells D 69 (0, 0)) := hD3
  clear s0 hW1 HB HB0
  go_wp2_with (first
    | (refine wpList_load_row rfl 69 _ rfl w.heap.size rfl 69 D (0, 0) _ hW3 Try.underlying69 rfl HSZ.out ?_)
    | (go_at_call 81; refine (HLE.out _).mono ?_; rintro e W4 ⟨rfl, hb4⟩; have hD4 := hD3.below hb4; have c2 := (hD4.cell 2).trans HK2.out)
    | (at_make; refine wpList_make_full _ rfl _ _ 31 rfl W4.heap.size 3 im (.int .i64 0) 1 Try.underlying31 hmi hmz hm1 .i64 .i64 _ _ 0 rfl rfl rfl rfl ?d2 ?d3 (Nat.le_refl _) ?_; rotate_left 2; intro W5 ho5 hg5; have hD5 := hD4.kept hg5 (by simp); have kN5 := (hD5.cell 202).trans HKN.out))
  case d2 => rw [hm2]; omega
  case d3 => unfold maxLen; omega
  have hz5 := held_zeros ho5
  have hB4 := below_step hB3 hB3.size hb4
  have hB5 := hB4.trans ((below_of_grownBy hg5 (Nat.le_refl _) (by simp)).mono hB4.size)
  have hws := hB4.size
  clear ho5 hg5 hb4 hA hA2 hB3 hB4 hD3 hW3 hD4 c2 hD5 HLE HSZ HK2 HKN
  refine wp_loop_rounds 1 ?_
  rw [rounds_succ]
  go_wp2
  go_ret
  exact ⟨⟨_, hws, rfl, hz5⟩, hB5⟩

def slackV (p : List ByteArray) (l : List Int) : List Nat := if sizedB p l = true then slL (pL p 0) (dN l) (gridR p) else []
theorem slackV_few (p : List ByteArray) (l : List Int) : (intsL (slackV p l)).length ≤ 1048576 := by
  unfold slackV
  split
  · rename_i h
    have := (sized_facts h).2.2.2.1
    simp [intsL, slL_len]; omega
  · simp [intsL]
set_option maxRecDepth 100000 in
set_option maxHeartbeats 8000000 in
theorem implSizeSlack_any (ao bo : Option Addr) (ca cb : Nat) (p : List ByteArray) (l : List Int) (w : World) (hl : p.length ≤ 1048576) (hs : ∀ s ∈ p, s.size ≤ 1048576) (hll : l.length ≤ 1048576)
    (hc : CellsAt w ao (p.map Value.string)) (hd : CellsAt w bo (l.map (Value.int .i64))) :
    Calls Try.prog 29 #[.slice ao p.length ca, .slice bo l.length cb] w fun e w' => NumsRet w.heap.size (intsL (slackV p l)) (sizedB p l) e w' ∧ Below w.heap.size w w' := by
  have HRD := Lib.hid (fun w hc hd => readDrawing_any ao bo ca cb p ((0 : Nat) : Int) l w hl hs hll hc hd)
  change Hid (∀ w _ _, Calls _ _ #[.slice ao p.length ca, .int .i64 0, .slice bo l.length cb] w _) at HRD
  have HZ := Lib.hid noDw_zero; have HZS := Lib.hid noDw_size
  cases hz : sizedB p l
  · rw [show slackV p l = [] by unfold slackV; rw [hz]; rfl]
    have HNO := Lib.hid (fun w => slackNil_any w)
    have HSB := Lib.hid hz
    obtain ⟨Z, hZ⟩ : ∃ Z, noDw = Z := ⟨_, rfl⟩
    rw [hZ] at HZ HZS HNO
    go_enter Try.func29, Try.ntmps29
    go_wp2_with fail
    refine (HRD.out _ hc hd).mono ?_
    rintro e w1 ⟨hdr, hb1⟩
    obtain ⟨D, rfl, hs1, hs2, hD0, hD1⟩ := dw_any hdr
    clear hdr
    have hDn := hD0 HSB.out
    rw [hZ] at hDn
    clear hD0 hD1 hZ
    subst hDn
    have hbx := hb1.alloc hb1.size (.cells D 69)
    have bD := HeldB.new w1 69 D
    have HDI := Lib.hid (show (Try.prog.info? 69).map (·.size) = some D.size by rw [hs1]; kernel_rfl)
    have HSD := Lib.hid hs1; have HS1 := Lib.hid hs2
    clear hs1 hs2
    go_wp2_with (first
      | (refine wpList_alloc_zero rfl 69 rfl D HZ.out ?_)
      | (refine wpList_store_new rfl 69 _ _ rfl _ D D rfl rfl rfl HDI.out rfl HS1.out ?_)
      | (refine wpList_load_row rfl 69 _ rfl w1.heap.size rfl 69 D (0, 0) _ bD Try.underlying69 rfl HDI.out ?_)
      | (go_at_call 52; refine (HNO.out _).mono ?_; rintro e w5 ⟨⟨g5, hg5, rfl, hA⟩, hb5⟩))
    go_ret2
    exact ⟨nums_of hA (by have := hbx.size; omega) (by simp), below_step hbx hbx.size hb5⟩
  · obtain ⟨hp, hlen, hnb, hr9, hr1, hdd⟩ := sized_facts hz
    rw [show slackV p l = slL (pL p 0) (dN l) (gridR p) by unfold slackV; rw [hz]; rfl]
    have HYES := Lib.hid (fun gn cn (w : World) hN => slack_any p.length (wideB p) (gridR p) (gridG p) (pL p) 0 (by omega) (dN l) gn cn w hr9 hr1 (pL_goes hp (by omega)) hdd hN)
    have HSB := Lib.hid hz
    have HR9 := Lib.hid hr9
    obtain ⟨Z, hZ⟩ : ∃ Z, noDw = Z := ⟨_, rfl⟩
    rw [hZ] at HZ HZS
    clear hp hlen hnb hr9 hr1 hdd
    go_enter Try.func29, Try.ntmps29
    go_wp2_with fail
    refine (HRD.out _ hc hd).mono ?_
    rintro e w1 ⟨hdr, hb1⟩
    obtain ⟨D, rfl, hs1, hs2, hD0, hD1⟩ := dw_any hdr
    clear hdr
    obtain ⟨gn, cn, hDe, hN⟩ := hD1 HSB.out
    have hN3 := hN.below (below_alloc w1 (.cells D 69))
    have hY := HYES.out gn cn
    rw [← hDe] at hY
    have HY := Lib.hid hY
    clear hD0 hD1 hN hY hDe
    clear hZ
    have hbx := hb1.alloc hb1.size (.cells D 69)
    have bD := HeldB.new w1 69 D
    have HDI := Lib.hid (show (Try.prog.info? 69).map (·.size) = some D.size by rw [hs1]; kernel_rfl)
    have HSD := Lib.hid hs1; have HS1 := Lib.hid hs2
    clear hs1 hs2
    go_wp2_with (first
      | (refine wpList_alloc_zero rfl 69 rfl Z HZ.out ?_)
      | (refine wpList_store_new rfl 69 _ _ rfl _ Z D rfl rfl rfl HDI.out (by rw [HSD.out, HZS.out]) HS1.out ?_)
      | (refine wpList_load_row rfl 69 _ rfl w1.heap.size rfl 69 D (0, 0) _ bD Try.underlying69 rfl HDI.out ?_)
      | (go_at_call 52; refine (HY.out _ hN3).mono ?_; rintro e w5 ⟨⟨g5, hg5, rfl, hA⟩, hb5⟩))
    go_ret2
    exact ⟨nums_of hA (by have := hbx.size; omega) (by rw [slL_len]; exact HR9.out), below_step hbx hbx.size hb5⟩


end Go.Proofs.Ythlbekookpcacaa

/-
  The model's slack. (Walks.)
-/
namespace Go.Proofs.Ythlbekookpcacaa
open Go.RowKit

/-- the model's rounds from behind -/
structure WbJ (f : Nat → Nat → Bool) (d : Nat → Nat) (r t a j : Nat) (S : List Nat) : Prop where
  len : S.length = r
  up : ∀ b, b < r → S.getD b 0 ≤ sumS (flipQ f) d r b
  lo : ∀ b, b < r → wK (flipQ f) d r t b ≤ S.getD b 0
  part : ∀ b, b < r → gM (flipQ f) (fun x => wK (flipQ f) d r t x + d x) b (if b < a then r else if b = a then j else 0) ≤ S.getD b 0
theorem WbJ.start (f : Nat → Nat → Bool) (d : Nat → Nat) (r : Nat) : WbJ f d r 0 0 0 (List.replicate r 0) :=
  ⟨by simp, fun b hb => by simp [hb], fun b hb => Nat.zero_le _, fun b hb => by rw [if_neg (by omega)]; split <;> exact Nat.zero_le _⟩
theorem WbJ.skip {f : Nat → Nat → Bool} {d : Nat → Nat} {r t a j : Nat} {S : List Nat} (h : WbJ f d r t a j S) (hf : f a j = false) : WbJ f d r t a (j + 1) S := by
  refine ⟨h.len, h.up, h.lo, fun b hb => ?_⟩
  have := h.part b hb
  by_cases hl : b < a
  · rw [if_pos hl] at this ⊢; exact this
  · rw [if_neg hl] at this ⊢
    by_cases e : b = a
    · subst e
      rw [if_pos rfl] at this ⊢
      rw [gM_no (show flipQ f j b = false from hf)]; exact this
    · rw [if_neg e] at this ⊢; exact this
theorem WbJ.step {f q : Nat → Nat → Bool} {d : Nat → Nat} {r t a j : Nat} {S : List Nat} (G : Goes f q r) (h : WbJ f d r t a j S) (hf : f a j = true) : WbJ f d r t a (j + 1) (S.set a (max (S.getD a 0) (S.getD j 0 + d j))) := by
  have hff : flipQ f j a = true := hf
  obtain ⟨ha, hj, _⟩ := G.imp _ _ hf
  have hs := G.flip.sum_up (d := d) hff
  have hua := h.up a ha
  have huj := h.up j hj
  have hlj := h.lo j hj
  have hg : ∀ b, (S.set a (max (S.getD a 0) (S.getD j 0 + d j))).getD b 0 = if b = a then max (S.getD a 0) (S.getD j 0 + d j) else S.getD b 0 := fun b => getD_set S a b _ (by rw [h.len]; exact ha)
  refine ⟨by rw [List.length_set]; exact h.len, fun b hb => ?_, fun b hb => ?_, fun b hb => ?_⟩
  · rw [hg]; split
    · next e => subst e; omega
    · exact h.up b hb
  · rw [hg]; split
    · next e => subst e; have := h.lo b hb; omega
    · exact h.lo b hb
  · have := h.part b hb
    rw [hg]
    by_cases hl : b < a
    · rw [if_pos hl] at this ⊢; rw [if_neg (by omega)]; exact this
    · rw [if_neg hl] at this ⊢
      by_cases e : b = a
      · subst e
        rw [if_pos rfl] at this ⊢
        rw [if_pos rfl, gM_yes hff]
        show max _ (wK (flipQ f) d r t j + d j) ≤ _
        omega
      · rw [if_neg e] at this ⊢; rw [if_neg e]; exact this
theorem WbJ.row {f : Nat → Nat → Bool} {d : Nat → Nat} {r t a : Nat} {S : List Nat} (h : WbJ f d r t a r S) : WbJ f d r t (a + 1) 0 S :=
  ⟨h.len, h.up, h.lo, fun b hb => by
    have := h.part b hb
    by_cases hl : b < a
    · rw [if_pos hl] at this; rw [if_pos (by omega)]; exact this
    · rw [if_neg hl] at this
      by_cases e : b = a
      · rw [if_pos e] at this; rw [if_pos (by omega)]; exact this
      · rw [if_neg (by omega)]; split <;> exact Nat.zero_le _⟩
theorem WbJ.round {f : Nat → Nat → Bool} {d : Nat → Nat} {r t : Nat} {S : List Nat} (h : WbJ f d r t r 0 S) : WbJ f d r (t + 1) 0 0 S :=
  ⟨h.len, h.up, fun b hb => by have := h.part b hb; rw [if_pos hb] at this; exact this, fun b hb => by rw [if_neg (by omega)]; split <;> exact Nat.zero_le _⟩
theorem WbJ.done {f : Nat → Nat → Bool} {d : Nat → Nat} {r : Nat} {S : List Nat} (h : WbJ f d r r 0 0 S) : S = sumL (flipQ f) d r := by
  refine list_getD_ext (by rw [h.len, sumL_len]) fun b hb => ?_
  rw [h.len] at hb
  rw [sumL_at hb]
  have h1 := h.up b hb
  have h2 := h.lo b hb
  unfold sumS at h1 ⊢
  omega
theorem slL_step (f : Nat → Nat → Bool) (d : Nat → Nat) {r k : Nat} (hk : k < r) : (slL f d r).take (k + 1) = (slL f d r).take k ++ [slN f d r k] := by
  rw [take_succ_getD _ k 0 (by rw [slL_len]; exact hk)]
  congr 2
  simp [slL, hk]

set_option maxRecDepth 100000 in
set_option maxHeartbeats 8000000 in
theorem specSizeSlack_any (ao bo : Option Addr) (ca cb : Nat) (p : List ByteArray) (l : List Int) (w : World) (hl : p.length ≤ 1048576) (hs : ∀ s ∈ p, s.size ≤ 1048576) (hll : l.length ≤ 1048576)
    (hc : CellsAt w ao (p.map Value.string)) (hd : CellsAt w bo (l.map (Value.int .i64))) :
    Calls Try.prog 27 #[.slice ao p.length ca, .slice bo l.length cb] w fun e w' => NumsRet w.heap.size (intsL (slackV p l)) (sizedB p l) e w' ∧ Below w.heap.size w w' := by
  have HN := Lib.hid (fun (w : World) hc hd => l7Needs_any ao bo ca cb p l w hl hs hll hc hd)
  have hb0 := below_alloc w (.cells #[] 3)
  have hr0 : (w.alloc (.cells #[] 3)).ownsRow w.heap.size 3 1 (.slice (some ⟨w.heap.size, 0, none⟩) 0 0) 0 (([] : List Int).map (Value.int .i64)) := World.ownsRow_made w #[] 0 (Nat.le_refl _) (Nat.zero_le _) rfl
  have hc0 := hc.below hb0
  have hd0 := hd.below hb0
  cases hz : sizedB p l
  · rw [show slackV p l = [] by unfold slackV; rw [hz]; rfl]
    rw [hz] at HN
    clear hz
    go_enter Try.func27, Try.ntmps27
    go_wp2_with fail
    refine (HN.out _ hc0 hd0).mono ?_
    rintro e w1 ⟨rfl, hb1⟩
    have hr1 := ownsRow_below hr0 hb1
    have hbx := below_step hb0 hb0.size hb1
    go_wp2
    go_ret2
    exact ⟨⟨_, _, rfl, hr1⟩, hbx⟩
  · obtain ⟨hp, hlen, hnb, hr9, hr1, hdd⟩ := sized_facts hz
    rw [show slackV p l = slL (pL p 0) (dN l) (gridR p) by unfold slackV; rw [hz]; rfl]
    have HA := Lib.hid (fun w hc => l5AllP_any ao ca p 0 w hl hs (plainB_plan hp) hc)
    have HPL := Lib.hid (fun (w : World) hc hd => l7Places_any ao bo ca cb p l 0 w hl hs hp hlen hnb (by omega) hc hd)
    have HLE := Lib.hid (fun (w : World) hc hd => l7Least_any ao bo ca cb p l 0 w hl hs hz (by omega) hc hd)
    change Hid (∀ w _, Calls _ _ #[_, .int .i64 0] w _) at HA
    change Hid (∀ w _ _, Calls _ _ #[_, _, .int .i64 0] w _) at HPL HLE
    have G := pL_goes hp (show 0 < 2 by omega)
    have HU1 := Lib.hid (fun b (hb : b < gridR p) => G.sum_few hdd hb hr9)
    have HU2 := Lib.hid (fun b (hb : b < gridR p) => G.flip.sum_few hdd hb hr9)
    have HE81 := Lib.hid (show endS (pL p 0) (dN l) (gridR p) ≤ 81 from (eM_le _).2 fun a ha => by have := G.sum_few hdd ha hr9; have := hdd a ha; omega)
    have HSI := Lib.hid (fun a (ha : a < gridR p) => slN_int (d := dN l) G ha)
    have HND := Lib.hid (fun a (ha : a < gridR p) => needB_at hnb (by omega : a < l.length))
    have HST := Lib.hid (fun k (hk : k < gridR p) => slL_step (pL p 0) (dN l) hk)
    have HLN := Lib.hid hlen
    have HG := Lib.hid G
    have HS1 := Lib.hid (fun b (hb : b < gridR p) => show (setsV (sumL (pL p 0) (dN l) (gridR p)))[b]? = some (.int .i64 ((sumS (pL p 0) (dN l) (gridR p) b : Nat) : Int)) by rw [setsV_at (by rw [sumL_len]; exact hb), sumL_at hb])
    have HS2 := Lib.hid (fun b (hb : b < gridR p) => show (setsV (sumL (flipQ (pL p 0)) (dN l) (gridR p)))[b]? = some (.int .i64 ((sumS (flipQ (pL p 0)) (dN l) (gridR p) b : Nat) : Int)) by rw [setsV_at (by rw [sumL_len]; exact hb), sumL_at hb])
    have HL1 := Lib.hid (sumL_len (pL p 0) (dN l) (gridR p))
    have HSL := Lib.hid (slL_len (pL p 0) (dN l) (gridR p))
    rw [hz] at HN
    rw [hlen] at HN HLE ⊢
    clear hz hp hnb hlen hl hs hdd G
    have HDC := Lib.hid hd
    have HB0 := Lib.hid hb0
    clear hc hd hb0
    generalize pL p 0 = f at *
    generalize firstQ (pL p) = q at *
    generalize gridR p = r at *
    generalize hdl : dN l = d at *
    clear hdl
    obtain ⟨im, hmi, hmz, hm1, hm2⟩ := info_parts Try.infoNum
    go_enter Try.func27, Try.ntmps27
    go_wp2_with fail
    refine (HN.out _ hc0 hd0).mono ?_
    rintro e w1 ⟨rfl, hb1⟩
    have hc1 := hc0.below hb1
    have hd1 := hd0.below hb1
    have hx1 := below_step HB0.out HB0.out.size hb1
    have hr1' := ownsRow_below hr0 hb1
    clear hr0 hb1 HN
    go_wp2_with fail
    refine (HA.out _ hc1).mono ?_
    rintro e w2 ⟨⟨S0, his, gs, hgs, rfl, hB0⟩, hb2⟩
    have HBIT := Lib.hid (fun (x y : Nat) (hx : x < r) => show (bits .and .i64 (((S0.getD x 0 : Nat) : Int) / 2 ^ y) 1 == 1) = f x y by
      rw [← his.bit x y hx]; exact bit_i64 _ y (his.low x hx))
    have HCEL := Lib.hid (fun (x : Nat) (hx : x < r) => show (setsV S0)[x]? = some (.int .i64 ((S0.getD x 0 : Nat) : Int)) from setsV_at (by rw [his.len]; exact hx))
    have hsl := his.len
    clear his
    rw [hsl]
    have HSZ := Lib.hid hsl
    clear hsl HA
    have hc2 := hc1.below hb2
    have hd2 := hd1.below hb2
    have hx2 := below_step hx1 hx1.size hb2
    have hr2 := ownsRow_below hr1' hb2
    have hws2 : w.heap.size < w2.heap.size := (owns_lt hr2 _ rfl).2
    clear hb2 hr1'
    go_wp2_with fail
    refine (HPL.out _ hc2 hd2).mono ?_
    rintro e w3 ⟨⟨gp, hgp, rfl, hP3⟩, hb3⟩
    have hc3 := hc2.below hb3
    have hd3 := hd2.below hb3
    have hx3 := below_step hx2 hx2.size hb3
    have hr3 := ownsRow_below hr2 hb3
    have hB3 := hB0.below hb3
    clear hb3 hr2 hB0 HPL
    rw [HL1.out]
    go_wp2_with fail
    refine (HLE.out _ hc3 hd3).mono ?_
    rintro e w4 ⟨rfl, hb4⟩
    have hd4 := hd3.below hb4
    have hx4 := below_step hx3 hx3.size hb4
    have hr4 := ownsRow_below hr3 hb4
    have hB4 := hB3.below hb4
    have hP4 := hP3.below hb4
    clear hb4 hr3 hB3 hP3 HLE hc3 hc2 hc1 hc0 hd3 hd2 hd1 hd0 hx1 hx2 hx3
    go_wp2_with (at_make; refine wpList_make_full _ rfl _ _ 31 rfl w4.heap.size 3 im (.int .i64 0) 1 Try.underlying31 hmi hmz hm1 .i64 .i64 _ _ r rfl rfl rfl rfl ?d2 ?d3 (Nat.le_refl _) ?_; rotate_left 2; intro w5 ho5 hg5; have hb5 : Below w4.heap.size w4 w5 := below_of_grownBy hg5 (Nat.le_refl _) (by simp); have hz := held_zeros ho5)
    case d2 => rw [hm2]; omega
    case d3 => unfold maxLen; omega
    have hgn : gs ≠ w4.heap.size := by have := hB4.lt; omega
    have st5 : PzSt w4 gs S0 (List.replicate r 0) w5 := ⟨hB4.below hb5, hz, hb5⟩
    have wb5 : WbJ f d r 0 0 0 (List.replicate r 0) := WbJ.start f d r
    obtain ⟨nb, no, rfl, -⟩ := hd4.int 0 (by rw [HLN.out]; omega)
    have HDC4 := Lib.hid hd4
    have HR4 := Lib.hid hr4; have HP4 := Lib.hid hP4; have HX4 := Lib.hid hx4
    have hg1 := hgs; have hg2 := hgp
    have hgp4 : gp < w4.heap.size := hP4.lt
    clear hz hB4 hb5 ho5 hg5 hd4 hr4 hP4 hx4
    go_loopw [11, 12, 13] (fun v9 _ _ wr => ∃ (t : Nat) (S : List Nat), t ≤ r ∧ v9 = .int .i64 (t : Int) ∧ PzSt w4 gs S0 S wr ∧ WbJ f d r t 0 0 S) (fun v _ _ _ => r - (intOf v).toNat)
    case atStart => exact ⟨0, _, Nat.zero_le _, rfl, st5, wb5⟩
    case round =>
      clear st5 wb5
      obtain ⟨t, S, ht, rfl, hst, hwa⟩ := hrel
      by_cases htr : t < r
      · go_wp2
        go_loopw [12, 13] (fun v10 _ wr => ∃ (a : Nat) (S : List Nat), a ≤ r ∧ v10 = .int .i64 (a : Int) ∧ PzSt w4 gs S0 S wr ∧ WbJ f d r t a 0 S) (fun v _ _ => r - (intOf v).toNat)
        case atStart => exact ⟨0, S, Nat.zero_le _, rfl, hst, hwa⟩
        case round =>
          clear hst hwa
          obtain ⟨a, S, ha, rfl, hst, hwa⟩ := hrel
          by_cases har : a < r
          · go_wp2
            go_loopw [13] (fun v11 wr => ∃ (j : Nat) (S : List Nat), j ≤ r ∧ v11 = .int .i64 (j : Int) ∧ PzSt w4 gs S0 S wr ∧ WbJ f d r t a j S) (fun v _ => r - (intOf v).toNat)
            case atStart => exact ⟨0, S, Nat.zero_le _, rfl, hst, hwa⟩
            case round =>
              clear hst hwa
              obtain ⟨j, S, hj, rfl, hst, hwa⟩ := hrel
              by_cases hjr : j < r
              · have hl := hwa.len
                have c1 := (hst.1.cell a).trans (HCEL.out a har)
                have t1 := HBIT.out a j har
                have hari : (a : Int) < (r : Int) := by omega
                have hjri : (j : Int) < (r : Int) := by omega
                generalize S0.getD a 0 = z at *
                cases hf : f a j
                · rw [hf] at t1
                  have hw2 := hwa.skip hf
                  clear hwa
                  go_wp2
                  go_roundw
                  case rel => exact ⟨j + 1, S, by omega, by go_num, hst, hw2⟩
                  case measure => simp [intOf]; omega
                · rw [hf] at t1
                  have kj := (hst.2.1.cell j).trans (setsV_at (S := S) (by rw [hl]; exact hjr))
                  have ka := (hst.2.1.cell a).trans (setsV_at (S := S) (by rw [hl]; exact har))
                  have fa := hst.2.1.frozen a
                  have hu1 := Nat.le_trans (hwa.up j hjr) (HU2.out j hjr)
                  have hu2 := Nat.le_trans (hwa.up a har) (HU2.out a har)
                  obtain ⟨hda, hd1, hd9⟩ := HND.out j hjr
                  obtain ⟨b2, o2, e2, kd⟩ := (HDC4.out.below hst.2.2).int j (by rw [HLN.out]; exact hjr)
                  cases e2
                  rw [hda] at kd
                  have hw2 := hwa.step HG.out hf
                  obtain ⟨mm, hmm⟩ : ∃ mm, mm = max (S.getD a 0) (S.getD j 0 + d j) := ⟨_, rfl⟩
                  rw [← hmm] at hw2
                  have hst3 := hst.put hgn a mm rfl
                  obtain ⟨y, hy⟩ : ∃ y, y = S.getD a 0 := ⟨_, rfl⟩
                  obtain ⟨x, hx⟩ : ∃ x, x = S.getD j 0 := ⟨_, rfl⟩
                  rw [← hy] at ka hmm hu2
                  rw [← hx] at kj hmm hu1
                  have HMX := Lib.hid (show (if (y : Int) < (x : Int) + (d j : Int) then (x : Int) + (d j : Int) else (y : Int)) = (mm : Int) by rw [max_sumS, hmm])
                  have HS3 := Lib.hid hst3
                  clear hst hwa hl hy hx hmm hst3 hda
                  generalize d j = e at *
                  go_wp2
                  go_region
                  rw [HMX.out]
                  go_wp2
                  go_roundw
                  case rel => exact ⟨j + 1, _, by omega, by go_num, HS3.out.drew, hw2⟩
                  case measure => simp [intOf]; omega
              · obtain rfl : j = r := by omega
                have hw2 := hwa.row
                clear hwa
                go_wp2
                go_roundw
                case rel => exact ⟨a + 1, S, by omega, by go_num, hst, hw2⟩
                case measure => simp [intOf]; omega
          · obtain rfl : a = r := by omega
            have hw2 := hwa.round
            clear hwa
            go_wp2
            go_roundw
            case rel => exact ⟨t + 1, S, by omega, by go_num, hst, hw2⟩
            case measure => simp [intOf]; omega
      · obtain rfl : t = r := by omega
        have hd := hwa.done
        subst hd
        clear hwa
        obtain ⟨_, hZ, hbZ⟩ := hst
        have hx5 := below_step HX4.out HX4.out.size hbZ
        have hr5 := ownsRow_below HR4.out hbZ
        have hP5 := HP4.out.below hbZ
        have hpz : gp ≠ w4.heap.size := by omega
        have hgz : w.heap.size ≠ w4.heap.size := by have := (owns_lt hr5 _ rfl); have := (owns_lt HR4.out _ rfl); omega
        have hgwp : w.heap.size ≠ gp := by omega
        clear hbZ
        generalize w4.heap.size = gz at *
        generalize hs1 : sumS f d t = su at *
        generalize hs2 : sumS (flipQ f) d t = sv at *
        generalize hsl : slN f d t = sl at *
        generalize hSL : slL f d t = SL at *
        have HSLE := Lib.hid hSL
        clear hSL
        generalize sumL (flipQ f) d t = S2 at *
        generalize sumL f d t = S1 at *
        generalize endS f d t = es at *
        clear hs1 hs2 hsl
        go_wp2
        go_loopw [6, 14] (fun vo vk wr => ∃ (k g rc : Nat), k ≤ t ∧ vk = .int .i64 (k : Int) ∧ vo = .slice (some ⟨g, 0, none⟩) k rc ∧ wr.ownsRow w.heap.size 3 1 (.slice (some ⟨g, 0, none⟩) k rc) k ((intsL (SL.take k)).map (Value.int .i64)) ∧ g ≠ gp ∧ g ≠ gz ∧ HeldB wr gz 3 (setsV S2) ∧ HeldB wr gp 3 (setsV S1) ∧ Below w.heap.size w wr) (fun _ vk _ => t - (intOf vk).toNat)
        case atStart => exact ⟨0, _, _, Nat.zero_le _, rfl, rfl, hr5, hgwp, hgz, hZ, hP5, hx5⟩
        case round =>
          clear hr5 hZ hP5 hx5
          obtain ⟨k, g, rc, hk, rfl, rfl, hown, hg1', hg2', hZ, hP, hB⟩ := hrel
          by_cases hkr : k < t
          · have hkI : (k : Int) < (t : Int) := by omega
            have cP := (hP.cell k).trans (HS1.out k hkr)
            have cZ := (hZ.cell k).trans (HS2.out k hkr)
            obtain ⟨b2, o2, e2, kd⟩ := (HDC.out.below hB).int k (by rw [HLN.out]; exact hkr)
            cases e2
            obtain ⟨hda, hd1, hd9⟩ := HND.out k hkr
            rw [hda] at kd
            have hu1 := HU1.out k hkr
            have hu2 := HU2.out k hkr
            have he81 := HE81.out
            have hsi := HSI.out k hkr
            have hb1' : k + 1 ≤ maxLen := by unfold maxLen; omega
            have hb2' : (k + 1) * 8 ≤ 140737488355328 := by omega
            have HSS := Lib.hid (HST.out k hkr)
            have hgl := (owns_lt hown _ rfl)
            have hg1g : w.heap.size ≤ g := hgl.1
            have hg2g : g < wr.heap.size := hgl.2
            obtain ⟨b3, o3, e3, kd3⟩ := HDC.out.int k (by rw [HLN.out]; exact hkr)
            cases e3
            have hnbk : nb < w.heap.size := by have := block_lt_of_cell kd3; simpa using this
            clear kd3
            have HSV := Lib.hid (show (es : Int) - (sv k : Int) - (d k : Int) - (su k : Int) = ((sl k : Nat) : Int) by omega)
            have v1 : IntKind.i64.wrap ((es : Int) - (sv k : Int)) = (es : Int) - (sv k : Int) := IntWalk.i64_in _ (by omega)
            have v2 : IntKind.i64.wrap ((es : Int) - (sv k : Int) - (d k : Int)) = (es : Int) - (sv k : Int) - (d k : Int) := IntWalk.i64_in _ (by omega)
            have v3 : IntKind.i64.wrap ((es : Int) - (sv k : Int) - (d k : Int) - (su k : Int)) = (es : Int) - (sv k : Int) - (d k : Int) - (su k : Int) := IntWalk.i64_in _ (by omega)
            have HV := Lib.hid (show (IntKind.i64.wrap (IntKind.i64.wrap (IntKind.i64.wrap ((es : Int) - (sv k : Int)) - (d k : Int)) - (su k : Int))) = ((sl k : Nat) : Int) by rw [v1, v2, v3, HSV.out])
            clear v1 v2 v3
            have hPl : gp < wr.heap.size := hP.lt
            have hZl : gz < wr.heap.size := hZ.lt
            clear hda hgl hsi
            have HP := Lib.hid hP; have HZ := Lib.hid hZ
            clear hP hZ
            generalize d k = dk at *
            generalize su k = x1 at *
            generalize sv k = x2 at *
            go_wp2
            go_region_held3 (fun w' => w'.cell? ⟨gz, k, none⟩ = some (.int .i64 (x2 : Int)) ∧ w'.cell? ⟨nb, no + k, none⟩ = some (.int .i64 (dk : Int)) ∧ w'.cell? ⟨gp, k, none⟩ = some (.int .i64 (x1 : Int)))
              (first
                | go_keep
                | (go_split_ands
                   refine ⟨?_, ?_, ?_⟩
                   · (rw [hgrow.cell_far _ (by simp; omega) (by simp [Value.ownBlock]; omega)]; assumption)
                   · (rw [hgrow.cell_far _ (by simp; omega) (by simp [Value.ownBlock]; omega)]; assumption)
                   · (rw [hgrow.cell_far _ (by simp; omega) (by simp [Value.ownBlock]; omega)]; assumption)))
              ((refine step_append_lies _ (by rfl) _ _ _ (by rfl) w.heap.size 3 im (.int .i64 0) 1 8 Try.underlying31 hmi hmz hm1 hm2 rfl (by omega) (.slice (some ⟨g, 0, none⟩) k rc) k _ (by rfl) ((hown.alloc _).drew)
                  ⟨wr.heap.size, 0, none⟩ 1 1 [.int .i64 (IntKind.i64.wrap (IntKind.i64.wrap (IntKind.i64.wrap ((es : Int) - (x2 : Int)) - (dk : Int)) - (x1 : Int)))] (by rfl) (by rfl) (World.news_of_block (cs := #[.int .i64 (IntKind.i64.wrap (IntKind.i64.wrap (IntKind.i64.wrap ((es : Int) - (x2 : Int)) - (dk : Int)) - (x1 : Int)))]) (t := 3) (fr := (0, 0)) (heap_alloc_new wr _)) (by simp [Value.oneCell'])
                  (by omega) hb1' hb2' (by simp; omega) (wr.heap.size + 1) (by simp) ?_; intro gg cap w4 hown4 hgrow hat hlt4))
            rw [HV.out] at hown4 hgrow
            have hbs := hB.size
            have hBa := hB.alloc hbs (.cells #[Value.int .i64 ((sl k : Nat) : Int)] 3)
            have hB4 : Below w.heap.size w w4 := (hBa.trans (below_drewN _ _ 1)).trans (below_of_grownBy hgrow (by show w.heap.size ≤ (wr.alloc _).heap.size; rw [World.size_alloc]; omega) (fun k hk => by simp only [Value.ownBlock, Option.some.injEq] at hk; omega))
            have hP4 := ((HP.out.alloc (.cells #[Value.int .i64 ((sl k : Nat) : Int)] 3)).drew).kept hgrow (by simp only [Value.ownBlock, ne_eq, Option.some.injEq]; omega)
            have hZ4 := ((HZ.out.alloc (.cells #[Value.int .i64 ((sl k : Nat) : Int)] 3)).drew).kept hgrow (by simp only [Value.ownBlock, ne_eq, Option.some.injEq]; omega)
            have hgg1 : gg ≠ gp := by
              rcases hat with h | h
              · simp only [Value.ownBlock, Option.some.injEq] at h; omega
              · omega
            have hgg2 : gg ≠ gz := by
              rcases hat with h | h
              · simp only [Value.ownBlock, Option.some.injEq] at h; omega
              · omega
            have hown5 := owns_eq hown4 (show (intsL (SL.take k)).map (Value.int .i64) ++ [Value.int .i64 ((sl k : Nat) : Int)] = (intsL (SL.take (k + 1))).map (Value.int .i64) by rw [HSS.out]; simp [intsL])
            clear hown4 hgrow hat hB hBa hown
            go_wp2
            go_roundw
            case rel => exact ⟨k + 1, gg, cap, by omega, by go_num, rfl, hown5, hgg1, hgg2, hZ4, hP4, hB4⟩
            case measure => simp [intOf]; omega
          · obtain rfl : k = t := by omega
            rw [List.take_of_length_le (by rw [HSL.out]; exact Nat.le_refl _)] at hown
            go_wp2
            go_ret2
            rw [HSLE.out]
            refine ⟨⟨_, _, by simp only [intsL, List.length_map, HSL.out]; rfl, ?_⟩, hB⟩
            rw [show (intsL SL).length = k by simp only [intsL, List.length_map, HSL.out]]
            exact hown

end Go.Proofs.Ythlbekookpcacaa
