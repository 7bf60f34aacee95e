
/-
  The order of a plan: what leads over walls, and on from there. (Walk.)
-/
import Derived.Test.YteallnkaapdifaaOrdL
import Derived.Deep.MidRow
namespace Go.Proofs.Yteallnkaapdifaa
open Go.RowKit

theorem wpList_load_plan {P : Program} {ops : Array Oper} {rest : List Oper} {op : Oper} {a : Act} {w : World} {Q : Exit → Act → World → Prop} (hgd : op.guard = none) (ty : TypeId) (x : Operand) (ho : op.op = .load ty x)
    (b o : Nat) (hx : a.eval x = .pointer (some ⟨b, o, none⟩)) (C : Array Value) (d : TypeDesc) (hc : w.rangeAt b o C.toList)
    (hu : P.underlying ty = some d) (hd : d.isRow = true) (hi : (P.info? ty).map (·.size) = some C.toList.length)
    (h : wpList P ops Q rest (a.put op.dst (.agg C)) w) : wpList P ops Q (op :: rest) a w :=
  wpList_load_mid hgd ty x ho b o hx C.toList d hc hu hd hi (by simpa using h)
theorem results_ord {fn : Func} {p : Tmp} (h : fn.results = #[.cell p 46]) {tmps : Array Value} {w : World} {B : Nat} {D : Array Value}
    (hp : tmps.getD p undef = .pointer (some ⟨B, 0, none⟩)) (hB : HeldB w B 46 D) (hs : D.size = 201) :
    (results fn tmps).run Try.prog w = .ok (.agg D) w :=
  results_cell_row h tmps w B 46 D (0, 0) _ (by rw [hp]) hB Try.underlying46 rfl (by rw [hs]; kernel_rfl)

/-- where the orders of a plan lie while they are made -/
def OrSt (w : World) (Z C : Array Value) (ro : Option Addr) (L : List Wl) (F : Nat → Nat → Nat → Bool) (wr : World) : Prop :=
  HeldB wr (w.heap.size + 1) 46 Z ∧ HeldB wr (w.heap.size + 2) 46 (ordC C F) ∧ CellsAt wr ro (wlsC L) ∧ Below w.heap.size w wr ∧ w.heap.size + 3 ≤ wr.heap.size
theorem OrSt.below {w : World} {Z C : Array Value} {ro : Option Addr} {L : List Wl} {F : Nat → Nat → Nat → Bool} {wr w1 : World} (h : OrSt w Z C ro L F wr) (hb : Below wr.heap.size wr w1) : OrSt w Z C ro L F w1 :=
  ⟨h.1.below hb, h.2.1.below hb, h.2.2.1.below hb, below_step h.2.2.2.1 h.2.2.2.1.size hb, Nat.le_trans h.2.2.2.2 hb.size⟩
theorem OrSt.put {w : World} {Z C : Array Value} (hC : C.size = 39) {ro : Option Addr} {L : List Wl} {F G : Nat → Nat → Nat → Bool} {wr : World} (h : OrSt w Z C ro L F wr) (hro : ∀ x, ro = some x → x.block ≠ w.heap.size + 2) {way a b : Nat} (hw : way < 2) (ha : a < 9) (hb : b < 9)
    (hG : putF F way a b true = G) : OrSt w Z C ro L G (wr.setCell ⟨w.heap.size + 2, 39 + way * 81 + a * 9 + b, none⟩ (.bool true)) := by
  subst hG
  have hg := grownBy_cell wr (w.heap.size + 2) (39 + way * 81 + a * 9 + b) (.bool true)
  refine ⟨h.1.other (by simp) _, ?_, h.2.2.1.grown hg (fun x hx e => hro x hx (Option.some.inj e)), h.2.2.2.1.setCell (p := ⟨w.heap.size + 2, 39 + way * 81 + a * 9 + b, none⟩) (by simp) _, Nat.le_trans h.2.2.2.2 hg.size⟩
  have := h.2.1.set (39 + way * 81 + a * 9 + b) (.bool true)
  rwa [ordC_put hC _ hw ha hb] at this

def ledF (h wd r : Nat) (g : Nat → Nat → Nat) : Nat → Nat → Nat → Bool := fun way => leadG h wd r g way

set_option maxRecDepth 100000 in
set_option maxHeartbeats 4000000 in
theorem order_any (h wd r : Nat) (g : Nat → Nat → Nat) (w : World) (hh : h ≤ 6) (hw : wd ≤ 6) (hr : r ≤ 9) (hg : ∀ i j, i < h → j < wd → g i j < r) :
    Calls Try.prog 54 #[.agg (planC h wd r g)] w
      fun e w' => e = .returned (.agg (ordC (planC h wd r g) (ledF h wd r g))) ∧ Below w.heap.size w w' := by
  have HWA := Lib.hid (fun w => walls_any h wd r g w hh hw)
  have HPS := Lib.hid (plan_size h wd r g)
  have HCS := Lib.hid (planC_size h wd r g)
  have HOB := Lib.hid (built_ord h wd r g)
  have HO1 := Lib.hid (fun F => ordC_one (planC_one h wd r g) F)
  have HLO := Lib.hid (fun (B : Nat) (F : Nat → Nat → Nat → Bool) (way : Nat) (w : World) (a1 : way < 2) (a2 : ∀ a b, F way a b = true → a < r ∧ b < r) a3 => leadOn_any B h wd r g F way w a1 hr a2 a3)
  have HSI := Lib.hid (fun (X : Wl) (hX : X ∈ wallsG h wd g) (w : World) => show Calls Try.prog 68 #[.agg (planC h wd r g), .agg (wlC X)] w
      fun e w' => TwoRet w.heap.size (aheadL g X) (behindL g X) e w' ∧ Below w.heap.size w w' from by
    obtain ⟨m1, m2, m3, m4, m5, m6⟩ := wallsG_mem hX
    have a1 : acrossN h wd X.way ≤ 6 := by unfold acrossN; split <;> omega
    have a2 : alongN h wd X.way ≤ 6 := by unfold alongN; split <;> omega
    exact sides_any h wd r g X w m2 (by omega) (by omega))
  have HAR := Lib.hid (fun (X : Wl) (hX : X ∈ wallsG h wd g) (i : Nat) hi => ahead_room hg hX (i := i) hi)
  have HBR := Lib.hid (fun (X : Wl) (hX : X ∈ wallsG h wd g) (i : Nat) hi => behind_room hg hX (i := i) hi)
  have HFE := Lib.hid (fun (X : Wl) (hX : X ∈ wallsG h wd g) => sides_few hh hw hX)
  have HWY := Lib.hid (fun (X : Wl) (hX : X ∈ wallsG h wd g) => (wallsG_mem hX).1)
  have HIN := Lib.hid (fun way => justG_in hg way)
  have HLE := Lib.hid (wallsG_len (g := g) hh hw)
  have HDEF := Lib.hid (show ∀ way, leadG h wd r g way = wars (justL g way (wallsG h wd g)) r from fun _ => rfl)
  have HJG := Lib.hid (show ∀ way, justG h wd g way = justL g way (wallsG h wd g) from fun _ => rfl)
  unfold ledF
  generalize wallsG h wd g = L at *
  generalize leadG h wd r g = lead at *
  generalize justG h wd g = just at *
  generalize planC h wd r g = C at *
  clear hg
  have HSO := Lib.hid (fun F => ordC_size HCS.out F)
  have HPL := Lib.hid (plan_len HCS.out)
  have HI2 := Lib.hid (fun F => ord_info HCS.out F)
  have HZ0 := Lib.hid zero_ordC
  have HZS := Lib.hid (show (ordC zeroC noF).size = 201 from ordC_size (planC_size _ _ _ _) _)
  have HZ1 := Lib.hid (HO1.out noF)
  have HDS := Lib.hid (HSO.out noF)
  have HD2 := Lib.hid (HI2.out noF)
  obtain ⟨D, hD⟩ : ∃ D, D = ordC C noF := ⟨_, rfl⟩
  rw [← hD] at HOB HZ1 HDS HD2
  have HD := Lib.hid hD; clear hD
  generalize ordC zeroC noF = Z at *
  go_enter Try.func54, Try.ntmps54
  have b0 : HeldB ((w.alloc (.cells C 41)).alloc (.cells Z 46)) w.heap.size 41 C := (HeldB.new w _ _).alloc _
  have b1 : HeldB (((w.alloc (.cells C 41)).alloc (.cells Z 46)).alloc (.cells D 46)) (w.heap.size + 1) 46 Z := by
    have := (HeldB.new (w.alloc (.cells C 41)) 46 Z).alloc (.cells D 46)
    rwa [World.size_alloc] at this
  have b2 : HeldB (((w.alloc (.cells C 41)).alloc (.cells Z 46)).alloc (.cells D 46)) (w.heap.size + 2) 46 (ordC C noF) := by
    have := HeldB.new ((w.alloc (.cells C 41)).alloc (.cells Z 46)) 46 D
    rw [World.size_alloc, World.size_alloc] at this
    exact this.eq HD.out
  have p2 := b2.planOf
  go_wp2_with (first
    | (refine wpList_alloc_zero rfl 46 rfl Z HZ0.out ?_)
    | (refine wpList_load_row rfl 41 _ rfl w.heap.size rfl 41 C (0, 0) _ b0 Try.underlying41 rfl HPS.out ?_)
    | (refine wpList_build_as rfl 46 _ rfl D (by simp only [List.map_toArray, List.map_cons, List.map_nil]; exact HOB.out) ?_)
    | (refine wpList_store_new rfl 46 _ _ rfl _ Z D rfl rfl rfl HD2.out (by rw [HZS.out, HDS.out]) HZ1.out ?_)
    | (refine wpList_load_plan rfl 41 _ rfl (w.heap.size + 2) 0 rfl C _ p2 Try.underlying41 rfl HPL.out ?_)
    | (go_at_call 67; refine (HWA.out _).mono ?_; rintro e w2 ⟨ro, rc, rfl, hown2, hb2⟩))
  have hW0 : Below w.heap.size w (((w.alloc (.cells C 41)).alloc (.cells Z 46)).alloc (.cells D 46)) := (((Below.refl _ w).alloc (Nat.le_refl _) _).alloc (by simp) _).alloc (by simp; omega) _
  have hsz : (((w.alloc (.cells C 41)).alloc (.cells Z 46)).alloc (.cells D 46)).heap.size = w.heap.size + 3 := by simp
  generalize (((w.alloc (.cells C 41)).alloc (.cells Z 46)).alloc (.cells D 46)) = W0 at *
  have hro : ∀ x, ro = some x → x.block ≠ w.heap.size + 2 := fun x hx => by have := owns_lt hown2 x hx; omega
  have hs2 : w.heap.size + 3 ≤ w2.heap.size := by have := hb2.size; omega
  have st2 : OrSt w Z C ro L (fun way => justL g way (L.take 0)) w2 := ⟨b1.below hb2, (b2.below hb2).eq (by rw [show (noF : Nat → Nat → Nat → Bool) = fun way => justL g way (L.take 0) from rfl]), ownsK_cells hown2, below_step hW0 hW0.size hb2, hs2⟩
  clear hsz hW0 b0 b1 b2 p2 hown2 hb2 hs2 HD HOB HD2 HDS HZ1
  have HRO := Lib.hid hro; clear hro
  go_loopw [18] (fun v wr => ∃ n : Nat, n ≤ L.length ∧ v = .int .i64 n ∧ OrSt w Z C ro L (fun way => justL g way (L.take n)) wr) (fun v _ => L.length - (intOf v).toNat)
  case atStart => exact ⟨0, Nat.zero_le _, rfl, st2⟩
  case round =>
    clear st2
    obtain ⟨n, hn, rfl, hst⟩ := hrel
    by_cases hnl : n < L.length
    · have hX : L.getD n zeroWl ∈ L := getD_mem zeroWl hnl
      have HTK := Lib.hid (take_snoc L n zeroWl hnl)
      obtain ⟨b, off, hb, hrg⟩ := wls_range hst.2.2.1 hnl
      generalize L.getD n zeroWl = X at *
      have hw2 := HWY.out X hX
      have hw2i : (X.way : Int) < 2 := by omega
      have HSX := Lib.hid (HSI.out X hX)
      have HAX := Lib.hid (HAR.out X hX)
      have HBX := Lib.hid (HBR.out X hX)
      have HAP := Lib.hid (fun (i j : Nat) hi hj x y hx hy => accF_put (g := g) (X := X) (i := i) (j := j) (x := x) (y := y) (L.take n) hi hj hx hy)
      have HAROW := Lib.hid (fun (i : Nat) hi => accF_row (g := g) (X := X) (i := i) (L.take n) hi)
      have HAALL := Lib.hid (accF_all g (L.take n) X)
      obtain ⟨hA6, hB6⟩ := HFE.out X hX
      have hL72 := HLE.out
      have st0 : OrSt w Z C ro L (accF g (L.take n) X 0 0) wr := by rw [accF_zero]; exact hst
      have HRO2 := Lib.hid (show ∀ x, ro = some x → x.block ≠ w.heap.size + 2 from HRO.out)
      have HNX := Lib.hid (show accF g (L.take n) X (aheadL g X).length 0 = fun way => justL g way (L.take (n + 1)) by rw [HTK.out, accF_all])
      have hV3 : w.heap.size + 3 ≤ wr.heap.size := hst.2.2.2.2
      have st3 := st0.below (below_alloc wr (.cells (wlC X) 78))
      have hbX := HeldB.new wr 78 (wlC X)
      have p3 := st3.2.1.planOf
      have hsz3 : (wr.alloc (.cells (wlC X) 78)).heap.size = wr.heap.size + 1 := by simp
      subst hb
      clear hst st0
      go_wp2_with (first
        | (refine wpList_load_wl rfl 78 _ rfl b (off + n * 4) rfl X _ hrg Try.underlying78 rfl Try.sizeWl ?_)
        | (refine wpList_store_new rfl 78 _ _ rfl _ (wlC zeroWl) (wlC X) rfl rfl rfl (wl_size _) rfl (wlC_one _) ?_)
        | (refine wpList_load_plan rfl 41 _ rfl (w.heap.size + 2) 0 rfl C _ p3 Try.underlying41 rfl HPL.out ?_)
        | (refine wpList_load_row rfl 78 _ rfl wr.heap.size rfl 78 (wlC X) (0, 0) _ hbX Try.underlying78 rfl (wl_size _) ?_)
        | (go_at_call 68; refine (HSX.out _).mono ?_; rintro e w4 ⟨⟨r0, q0, r1, q1, rfl, o0, o1, hap⟩, hb4⟩))
      have st4 := st3.below hb4
      have hbX4 := hbX.below hb4
      have cA := owns_cells o0
      have cB := owns_cells o1
      have hr0 : ∀ x, r0 = some x → x.block ≠ w.heap.size + 2 := fun x hx => by have := owns_lt o0 x hx; omega
      have hr1 : ∀ x, r1 = some x → x.block ≠ w.heap.size + 2 := fun x hx => by have := owns_lt o1 x hx; omega
      obtain ⟨V, hV⟩ : ∃ V, V = wr.heap.size := ⟨_, rfl⟩
      rw [← hV] at hbX4 ⊢
      have hVn : V ≠ w.heap.size + 2 := by omega
      clear hb4 o0 o1 hap st3 hbX p3 hsz3 hV hV3 hrg
      have HR0 := Lib.hid hr0; have HR1 := Lib.hid hr1
      clear hr0 hr1
      go_loopw [31] (fun v wm => ∃ i : Nat, i ≤ (aheadL g X).length ∧ v = .int .i64 i ∧ OrSt w Z C (some ⟨b, off, none⟩) L (accF g (L.take n) X i 0) wm ∧ HeldB wm V 78 (wlC X) ∧ CellsAt wm r0 ((aheadL g X).map (Value.int .i64)) ∧ CellsAt wm r1 ((behindL g X).map (Value.int .i64))) (fun v _ => (aheadL g X).length - (intOf v).toNat)
      case atStart => exact ⟨0, Nat.zero_le _, rfl, st4, hbX4, cA, cB⟩
      case round =>
        clear st4 hbX4 cA cB
        obtain ⟨i, hi, rfl, hst, hbX, cA, cB⟩ := hrel
        by_cases hil : i < (aheadL g X).length
        · obtain ⟨x, hx, hxr⟩ := HAX.out i hil
          obtain ⟨ab, ao, rfl, ca⟩ := cA i (.int .i64 (x : Int)) (by rw [List.getElem?_map, List.getElem?_eq_getElem hil, ← hx]; simp [hil])
          have hili : (i : Int) < ((aheadL g X).length : Int) := by omega
          go_wp2
          clear ca
          go_loopw [37] (fun v wm => ∃ j : Nat, j ≤ (behindL g X).length ∧ v = .int .i64 j ∧ OrSt w Z C (some ⟨b, off, none⟩) L (accF g (L.take n) X i j) wm ∧ HeldB wm V 78 (wlC X) ∧ CellsAt wm (some ⟨ab, ao, none⟩) ((aheadL g X).map (Value.int .i64)) ∧ CellsAt wm r1 ((behindL g X).map (Value.int .i64))) (fun v _ => (behindL g X).length - (intOf v).toNat)
          case atStart => exact ⟨0, Nat.zero_le _, rfl, hst, hbX, cA, cB⟩
          case round =>
            clear hst hbX cA cB
            obtain ⟨j, hj, rfl, hst, hbX, cA, cB⟩ := hrel
            by_cases hjl : j < (behindL g X).length
            · obtain ⟨y, hy, hyr⟩ := HBX.out j hjl
              obtain ⟨bb, bo, rfl, cb⟩ := cB j (.int .i64 (y : Int)) (by rw [List.getElem?_map, List.getElem?_eq_getElem hjl, ← hy]; simp [hjl])
              have hjli : (j : Int) < ((behindL g X).length : Int) := by omega
              have x0 : wr.cell? ⟨V, 0, none⟩ = some (.int .i64 (X.way : Nat)) := hbX.cell 0
              have f1 := hst.2.1.frozen (39 + X.way * 81 + x * 9 + y)
              have hx9 : x < 9 := by omega
              have hy9 : y < 9 := by omega
              have hx9i : (x : Int) < 9 := by omega
              have hy9i : (y : Int) < 9 := by omega
              have hst2 := hst.put HCS.out HRO2.out hw2 hx9 hy9 (HAP.out i j hil hjl x y hx hy)
              have hbX2 := hbX.other (a := ⟨w.heap.size + 2, 39 + X.way * 81 + x * 9 + y, none⟩) hVn (.bool true)
              have hgc := grownBy_cell wr (w.heap.size + 2) (39 + X.way * 81 + x * 9 + y) (.bool true)
              have cA2 := cA.grown hgc (fun z hz e => HR0.out z hz (Option.some.inj e))
              have cB2 := cB.grown hgc (fun z hz e => HR1.out z hz (Option.some.inj e))
              have k1 : wr.cell? ⟨w.heap.size + 2, 39 + X.way * 81 + x * 9 + y, none⟩ = some (.bool (accF g (L.take n) X i j X.way x y)) := (hst.2.1.cell _).trans (ordC_at HCS.out _ hw2 hx9 hy9)
              clear hst hbX hgc cA cB
              go_wp2
              go_roundw
              case rel => exact ⟨j + 1, by omega, by go_num, hst2, hbX2, cA2, cB2⟩
              case measure => simp [intOf]; omega
            · obtain rfl : j = (behindL g X).length := by omega
              rw [HAROW.out i hil] at hst
              go_wp2
              go_roundw
              case rel => exact ⟨i + 1, by omega, by go_num, hst, hbX, cA, cB⟩
              case measure => simp [intOf]; omega
        · obtain rfl : i = (aheadL g X).length := by omega
          rw [HNX.out] at hst
          go_wp2
          go_roundw
          case rel => exact ⟨n + 1, by omega, by go_num, hst⟩
          case measure => simp [intOf]; omega
    · obtain rfl : n = L.length := by omega
      rw [List.take_length] at hst
      obtain ⟨F, hF⟩ : ∃ F : Nat → Nat → Nat → Bool, F = fun way => justL g way L := ⟨_, rfl⟩
      rw [← hF] at hst
      have HF := Lib.hid hF; clear hF
      have HL0 := Lib.hid (HLO.out (w.heap.size + 2) F 0 wr (by omega) (by rw [HF.out]; exact fun a b e => HIN.out 0 a b (by rw [HJG.out]; exact e)) hst.2.1)
      have HL1 := Lib.hid (fun (w5 : World) h5 => HLO.out (w.heap.size + 2) (wayF' F 0 (wars (F 0) r)) 1 w5 (by omega) (by unfold wayF'; rw [HF.out]; exact fun a b e => HIN.out 1 a b (by rw [HJG.out]; exact e)) h5)
      obtain ⟨F1, hF1⟩ : ∃ F1, F1 = wayF' F 0 (wars (F 0) r) := ⟨_, rfl⟩
      rw [← hF1] at HL0 HL1
      obtain ⟨F2, hF2⟩ : ∃ F2, F2 = wayF' F1 1 (wars (F1 1) r) := ⟨_, rfl⟩
      rw [← hF2] at HL1
      have HFF := Lib.hid (show ordC C F2 = ordC C (fun way => lead way) from ordC_same fun w a b hw _ _ => by
        rw [hF2, hF1, HDEF.out]
        unfold wayF'
        rw [HF.out]
        rcases (show w = 0 ∨ w = 1 by omega) with rfl | rfl
        · simp
        · simp)
      clear hF1 hF2
      have HA2 := Lib.hid (HI2.out F2)
      have HB2 := Lib.hid (HSO.out F2)
      have HC2 := Lib.hid (HO1.out F2)
      have hz := hst.1
      have hbl := hst.2.2.2.1
      have hsz := hst.2.2.2.2
      clear hst HWA HSI HAR HBR HFE HWY HI2 HSO HO1 HLO HIN HJG HDEF HF
      generalize ordC C F2 = D2 at *
      go_wp2_with (first
        | (go_at_call 69; refine (HL2.out).mono ?_; rintro e w6 ⟨rfl, hb6, hg6⟩; have hz6 := (hz.kept hg5 (by simp)).kept hg6 (by simp))
        | (go_at_call 69; refine HL0.out.mono ?_; rintro e w5 ⟨rfl, hb5, hg5⟩; have HL2 := Lib.hid (HL1.out w5 hb5))
        | (refine wpList_load_row rfl 46 _ rfl (w.heap.size + 2) rfl 46 D2 (0, 0) _ hb6 Try.underlying46 rfl HA2.out ?_)
        | (refine wpList_store_row rfl 46 _ _ rfl (w.heap.size + 1) D2 rfl rfl 46 Z hz6 HA2.out (by rw [HZS.out, HB2.out]) HC2.out ?_))
      have hk : ∀ k, some (w.heap.size + 2) = some k → w.heap.size ≤ k := fun k hk => by have := Option.some.inj hk; omega
      have hg56 := grownBy_trans hg5 hg6
      refine bodyPost_ret (v := .agg D2) (results_ord Try.results54 rfl (hz6.setRow D2) HB2.out) rfl ⟨by rw [HFF.out], ?_⟩
      exact below_setRowB (hbl.trans (below_of_grownBy hg56 hbl.size hk)) (by omega) _
end Go.Proofs.Yteallnkaapdifaa
