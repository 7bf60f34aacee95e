
/-
  The model's depths and numbers of ways. (Walks.)
-/
import Derived.Test.YtcndlfkmmgdpaaaGuiU
import Derived.Test.YtcndlfkmmgdpaaaGuiV
import Derived.StillTail
import Derived.StillTactics
namespace Go.Proofs.Ytcndlfkmmgdpaaa
open Go.RowKit

def optI : Option Nat → Int
  | some b => ((b : Nat) : Int)
  | none => -1
/-- the least depth of the first cuts; less than nothing if there are none -/
def bestK (g : Nat → Nat → Nat) (n : Nat) (R : Rc) (i : Nat) : Int := optI (leastO (((R.cuts g).take i).map (deepK g n R)))
theorem bestK_zero (g : Nat → Nat → Nat) (n : Nat) (R : Rc) : bestK g n R 0 = -1 := rfl
theorem bestK_step {g : Nat → Nat → Nat} {n : Nat} {R : Rc} {i : Nat} (hi : i < (R.cuts g).length) : bestK g n R (i + 1) = if bestK g n R i < 0 ∨ ((deepK g n R ((R.cuts g).getD i (0, 0)) : Nat) : Int) < bestK g n R i then ((deepK g n R ((R.cuts g).getD i (0, 0)) : Nat) : Int) else bestK g n R i := by
  unfold bestK
  rw [take_succ_getD _ i (0, 0) hi, List.map_append]
  show optI (leastO (_ ++ [deepK g n R ((R.cuts g).getD i (0, 0))])) = _
  rw [leastO_snoc]
  generalize deepK g n R ((R.cuts g).getD i (0, 0)) = d
  cases leastO (((R.cuts g).take i).map (deepK g n R)) with
  | none => rw [if_pos (.inl (by decide))]; rfl
  | some b =>
    show ((min b d : Nat) : Int) = if ((b : Nat) : Int) < 0 ∨ ((d : Nat) : Int) < ((b : Nat) : Int) then ((d : Nat) : Int) else ((b : Nat) : Int)
    split <;> omega
theorem bestK_all {g : Nat → Nat → Nat} {n : Nat} {R : Rc} (h1 : R.one g = false) (hk : 0 < (R.cuts g).length) : bestK g n R (R.cuts g).length = ((R.deep g (n + 1) : Nat) : Int) := by
  rw [Rc.deep_cut h1]
  unfold bestK
  rw [List.take_length]
  obtain ⟨x, e, _⟩ := leastO_le (l := (R.cuts g).map (deepK g n R)) (d := deepK g n R ((R.cuts g).getD 0 (0, 0))) (List.mem_map_of_mem (getD_mem (0, 0) hk))
  show _ = (((leastO ((R.cuts g).map (deepK g n R))).getD 0 : Nat) : Int)
  rw [e]; rfl

/-- what is read of a cut -/
def HeldCut (W : World) (vb vi g c0 : Nat) (c : Nat × Nat) : Prop :=
  W.cell? ⟨vb, vi, none⟩ = some (.slice (some ⟨g, 0, none⟩) 4 c0) ∧ W.cell? ⟨g, 0, none⟩ = some (.int .i64 ((c.1 : Nat) : Int)) ∧ W.cell? ⟨g, 1, none⟩ = some (.int .i64 ((c.2 : Nat) : Int))
theorem HeldCut.below {W W' : World} {vb vi g c0 : Nat} {c : Nat × Nat} (h : HeldCut W vb vi g c0 c) (hb : Below W.heap.size W W') : HeldCut W' vb vi g c0 c := ⟨cell_below h.1 hb, cell_below h.2.1 hb, cell_below h.2.2 hb⟩
theorem yieldsIf_cell {P : Program} {ops : Array Oper} {S : World → Prop} {op : Oper} {a : Act} (hw : Region.wanted op (yielded ops a.tmps) = true) (ty : TypeId) (x : Operand) (ho : op.op = .load ty x) (v : Value)
    (hr : ∀ w, S w → (Instr.loadAt ty (a.eval x)).run P w = .ok v w) : YieldsIf P ops S op v a :=
  .inl ⟨hw, fun w hw' => by
    unfold execOp
    simp only [ho, Sem.run_bind, Sem.run_pure, Result.andThen_ok, hr w hw']⟩

set_option maxRecDepth 100000 in
set_option maxHeartbeats 4000000 in
theorem l3Deep_any {p : List ByteArray} (hp : PlanP p) : ∀ (n : Nat) (R : Rc) (ao : Option Addr) (cap : Nat) (w : World), R.Clo (gridG p) p.length (wideB p) → R.h + R.w ≤ n → Gui (gridG p) R → CellsAt w ao ((subP p R).map Value.string) →
    Calls Try.prog 46 #[.slice ao R.h cap] w fun e w' => e = .returned (.int .i64 ((R.deep (gridG p) n : Nat) : Int)) ∧ Below w.heap.size w w'
  | 0, R, _, _, _, C, hn, _, _ => by have := C.fit.h1; omega
  | n + 1, R, ao, cap, w, C, hn, G, hc => by
    have B := boxy_of hp
    have F := C.fit
    have HIH := Lib.hid (fun R ao cap w C hn G hc => l3Deep_any hp n R ao cap w C hn G hc)
    have HONE := Lib.hid (l3OneR_any hp R ao cap w F hc)
    cases h1 : R.one (gridG p)
    · rw [h1] at HONE
      have hl := subP_len F; have hw := subP_wide hp.grid.even F
      have h6 := hp.grid.h6; have w6 := hp.grid.w6
      have f1 := F.h1; have f2 := F.w1; have f3 := F.hh; have f4 := F.hw
      have HCU := Lib.hid (fun w hc => l3Cuts_any ao cap (subP p R) w (by omega) (by omega) (by omega) (by omega) (subP_even hp.grid.even F) hc)
      rw [hl] at HCU
      have hmap := subP_cuts hp F
      have hlen : (R.cuts (gridG p)).length = (cutsQ (subP p R)).length := by rw [hmap, List.length_map]
      have hget : ∀ i, i < (cutsQ (subP p R)).length → (R.cuts (gridG p)).getD i (0, 0) = absC R ((cutsQ (subP p R)).getD i (0, 0)) := fun i hi => by rw [hmap]; simp [hi]
      have hkl : 0 < (R.cuts (gridG p)).length := by
        cases G with
        | one _ h => rw [h1] at h; cases h
        | cut _ c a b d _ _ => exact List.length_pos_of_mem (Rc.mem_cuts C.fit B.hh B.hw a b d)
      have hk72 := cutsQ_len (q := subP p R) (by omega) (by omega) (by omega) (by omega)
      have HK := Lib.hid (fun i (hi : i < (cutsQ (subP p R)).length) => by
        have hi' : i < (R.cuts (gridG p)).length := by omega
        have hmem := getD_mem (l := R.cuts (gridG p)) (0, 0) hi'
        have hm := Rc.cuts_mem hmem
        have hd := cutsQ_mem (by omega : 1 ≤ wideB (subP p R)) (getD_mem (l := cutsQ (subP p R)) (0, 0) hi)
        have f1 := Rc.fit_left F hm.2.1; have f2 := Rc.fit_right F hm.2.1
        have gl := G.sub _ (Rc.left_sub hm.2.1) f1.1.h1 f1.1.w1
        have gr := G.sub _ (Rc.right_sub hm.2.1) f2.1.h1 f2.1.w1
        have cl := C.left B.rect hm.2.1 hm.2.2; have cr := C.right B.rect hm.2.1 hm.2.2
        have dl := Nat.le_trans (B.deep_few (n := n) cl (by omega) gl) (Nat.le_trans Rc.rooms_few B.few)
        have dr := Nat.le_trans (B.deep_few (n := n) cr (by omega) gr) (Nat.le_trans Rc.rooms_few B.few)
        have s := bestK_step (n := n) hi'
        rw [hget i hi] at hm f1 f2 gl gr cl cr dl dr s
        exact And.intro (fun w hc => l3PartsR_any hp R _ ao cap w F hd.1 hd.2.2 hm.2.1 hc) (And.intro (fun ao cap w hc => HIH.out _ ao cap w cl (by omega) gl hc) (And.intro (fun ao cap w hc => HIH.out _ ao cap w cr (by omega) gr hc) (And.intro s (And.intro dl dr)))))
      have HAL := Lib.hid (bestK_all (n := n) h1 hkl)
      have HZ := Lib.hid (bestK_zero (gridG p) n R)
      have HDK := Lib.hid (fun c => show deepK (gridG p) n R c = 1 + max ((R.left c).deep (gridG p) n) ((R.right c).deep (gridG p) n) from rfl)
      rw [hlen] at HAL
      rw [← HAL.out]
      have HC := Lib.hid hc
      clear HIH h1 hc hkl G HAL hget hlen hmap hl hw h6 w6 f1 f2 f3 f4 C F B hn
      generalize bestK (gridG p) n R = lk at *
      generalize deepK (gridG p) n R = dk at *
      generalize cutsQ (subP p R) = K at *
      go_enter Try.func46, Try.ntmps46
      go_wp2_with fail
      refine HONE.out.mono ?_
      rintro e w1 ⟨rfl, hb1⟩
      go_wp2_with fail
      refine (HCU.out _ (HC.out.below hb1)).mono ?_
      rintro e w2 ⟨ro, rc, vs, rfl, hcl, hin, hb2⟩
      have hb3 := below_step hb1 hb1.size hb2
      have HCL := Lib.hid hcl
      have HIN := Lib.hid hin
      clear hcl hin HCU HONE hb1 hb2
      go_wp2
      go_loopw [3, 5] (fun vd vi wr => ∃ (i : Nat), i ≤ K.length ∧ vi = .int .i64 (i : Int) ∧ vd = .int .i64 (lk i) ∧ Below w.heap.size w wr ∧ Below w2.heap.size w2 wr) (fun _ vi _ => K.length - (intOf vi).toNat)
      case atStart => exact ⟨0, Nat.zero_le _, rfl, by rw [HZ.out], hb3, Below.refl _ _⟩
      case round =>
        clear hb3
        obtain ⟨i, hi, rfl, rfl, hb, hbq⟩ := hrel
        by_cases hik : i < K.length
        · have hikI : (i : Int) < (K.length : Int) := by omega
          obtain ⟨hAP, hDL, hDR, hst, hdl, hdr⟩ := HK.out i hik
          obtain ⟨g, c0, -, -, e1, k0, k1⟩ := (HIN.out.below hbq).2 i hik
          obtain ⟨vb, vo, rfl, kv⟩ := (HCL.out.below hbq) _ _ e1
          have hc2 := HC.out.below hb
          have hdk := HDK.out (absC R (K.getD i (0, 0)))
          have HAP := Lib.hid hAP; have HDL := Lib.hid hDL; have HDR := Lib.hid hDR
          clear hAP hDL hDR e1
          generalize K.getD i (0, 0) = c at *
          generalize (R.left (absC R c)).deep (gridG p) n = dl at *
          generalize (R.right (absC R c)).deep (gridG p) n = dr at *
          generalize dk (absC R c) = dd at *
          generalize hy : lk i = y at *
          generalize hz : lk (i + 1) = z at *
          have HZZ := Lib.hid hz
          clear hy hz
          go_wp2
          refine wp_region_held (S := fun W => HeldCut W vb (vo + i) g c0 c) (by kernel_rfl) ?_
          replace hb : Below w.heap.size w ({ wr with drawn := wr.drawn + 1 } : World) := hb.trans (below_drewN w.heap.size wr 1)
          replace hbq : Below w2.heap.size w2 ({ wr with drawn := wr.drawn + 1 } : World) := hbq.trans (below_drewN w2.heap.size wr 1)
          replace hc2 : CellsAt ({ wr with drawn := wr.drawn + 1 } : World) ao ((subP p R).map Value.string) := hc2
          have hS : HeldCut ({ wr with drawn := wr.drawn + 1 } : World) vb (vo + i) g c0 c := ⟨kv, k0, k1⟩
          clear kv k0 k1
          generalize ({ wr with drawn := wr.drawn + 1 } : World) = W6 at *
          change Go.wpAnyH Try.prog Region.Mode.any _ _ _ 19 (Array.replicate 19 false) _ _
          refine wpAnyH_take (i := 0) (v := .slice ao R.h cap) rfl (by kernel_rfl) (by kernel_rfl) (by kernel_rfl) (fun _ _ _ h => h) (Yields.yieldsIf (Or.inl ⟨by rfl, fun w => by go_simp⟩)) hS ?_
          refine wpAnyH_take (i := 1) (v := .slice (some ⟨vb, vo, none⟩) K.length rc) rfl (by kernel_rfl) (by kernel_rfl) (by kernel_rfl) (fun _ _ _ h => h) (Yields.yieldsIf (Or.inl ⟨by rfl, fun w => by go_simp⟩)) hS ?_
          refine wpAnyH_take (i := 2) (v := .int .i64 (i : Int)) rfl (by kernel_rfl) (by kernel_rfl) (by kernel_rfl) (fun _ _ _ h => h) (Yields.yieldsIf (Or.inl ⟨by rfl, fun w => by go_simp⟩)) hS ?_
          refine wpAnyH_take (i := 3) (v := .pointer (some ⟨vb, vo + i, none⟩)) rfl (by kernel_rfl) (by kernel_rfl) (by kernel_rfl) (fun _ _ _ h => h) (Yields.yieldsIf (Or.inl ⟨by rfl, fun w => by go_simp⟩)) hS ?_
          refine wpAnyH_take (i := 4) (v := .slice (some ⟨g, 0, none⟩) 4 c0) rfl (by kernel_rfl) (by kernel_rfl) (by kernel_rfl) (fun _ _ _ h => h) (yieldsIf_cell (by rfl) 34 _ rfl _ (fun w' hw => by have hc := hw.1; go_simp)) hS ?_
          refine wpAnyH_take (i := 5) (v := .pointer (some ⟨g, 0, none⟩)) rfl (by kernel_rfl) (by kernel_rfl) (by kernel_rfl) (fun _ _ _ h => h) (Yields.yieldsIf (Or.inl ⟨by rfl, fun w => by go_simp⟩)) hS ?_
          refine wpAnyH_take (i := 6) (v := .int .i64 ((c.1 : Nat) : Int)) rfl (by kernel_rfl) (by kernel_rfl) (by kernel_rfl) (fun _ _ _ h => h) (yieldsIf_cell (by rfl) 3 _ rfl _ (fun w' hw => by have hc := hw.2.1; go_simp)) hS ?_
          refine wpAnyH_take (i := 7) (v := .slice (some ⟨vb, vo, none⟩) K.length rc) rfl (by kernel_rfl) (by kernel_rfl) (by kernel_rfl) (fun _ _ _ h => h) (Yields.yieldsIf (Or.inl ⟨by rfl, fun w => by go_simp⟩)) hS ?_
          refine wpAnyH_take (i := 8) (v := .int .i64 (i : Int)) rfl (by kernel_rfl) (by kernel_rfl) (by kernel_rfl) (fun _ _ _ h => h) (Yields.yieldsIf (Or.inl ⟨by rfl, fun w => by go_simp⟩)) hS ?_
          refine wpAnyH_take (i := 9) (v := .pointer (some ⟨vb, vo + i, none⟩)) rfl (by kernel_rfl) (by kernel_rfl) (by kernel_rfl) (fun _ _ _ h => h) (Yields.yieldsIf (Or.inl ⟨by rfl, fun w => by go_simp⟩)) hS ?_
          refine wpAnyH_take (i := 10) (v := .slice (some ⟨g, 0, none⟩) 4 c0) rfl (by kernel_rfl) (by kernel_rfl) (by kernel_rfl) (fun _ _ _ h => h) (yieldsIf_cell (by rfl) 34 _ rfl _ (fun w' hw => by have hc := hw.1; go_simp)) hS ?_
          refine wpAnyH_take (i := 11) (v := .pointer (some ⟨g, 1, none⟩)) rfl (by kernel_rfl) (by kernel_rfl) (by kernel_rfl) (fun _ _ _ h => h) (Yields.yieldsIf (Or.inl ⟨by rfl, fun w => by go_simp⟩)) hS ?_
          refine wpAnyH_take (i := 12) (v := .int .i64 ((c.2 : Nat) : Int)) rfl (by kernel_rfl) (by kernel_rfl) (by kernel_rfl) (fun _ _ _ h => h) (yieldsIf_cell (by rfl) 3 _ rfl _ (fun w' hw => by have hc := hw.2.2; go_simp)) hS ?_
          refine wpAnyH_all (rs := [13]) (by kernel_rfl) (by decide) ?_
          intro i' hi'
          simp only [List.mem_cons, List.not_mem_nil, or_false] at hi'
          subst hi'
          refine wpOp_go rfl (by rfl) ?_
          unfold Oper.wp
          go_simp
          refine (HAP.out _ hc2).mono ?_
          rintro e w3 ⟨ra, ca, rb, cb, rfl, hca, hcb, hb3⟩
          replace hS := hS.below hb3
          refine ⟨hS, ?_⟩
          have hb4 := below_step hb hb.size hb3
          have hq4 := below_step hbq hbq.size hb3
          clear HAP hb3 hb hbq hc2
          refine wpAnyH_take (i := 14) (v := .tuple #[.slice ra (R.left (absC R c)).h ca, .slice rb (R.right (absC R c)).h cb]) rfl (by kernel_rfl) (by kernel_rfl) (by kernel_rfl) (fun _ _ _ h => h) (Yields.yieldsIf (Or.inl ⟨by rfl, fun w => by go_simp⟩)) hS ?_
          refine wpAnyH_take (i := 15) (v := .slice ra (R.left (absC R c)).h ca) rfl (by kernel_rfl) (by kernel_rfl) (by kernel_rfl) (fun _ _ _ h => h) (Yields.yieldsIf (Or.inl ⟨by rfl, fun w => by go_simp⟩)) hS ?_
          refine wpAnyH_take (i := 16) (v := .slice rb (R.right (absC R c)).h cb) rfl (by kernel_rfl) (by kernel_rfl) (by kernel_rfl) (fun _ _ _ h => h) (Yields.yieldsIf (Or.inl ⟨by rfl, fun w => by go_simp⟩)) hS ?_
          refine wpAnyH_take (i := 17) (v := .slice ra (R.left (absC R c)).h ca) rfl (by kernel_rfl) (by kernel_rfl) (by kernel_rfl) (fun _ _ _ h => h) (Yields.yieldsIf (Or.inl ⟨by rfl, fun w => by go_simp⟩)) hS ?_
          refine wpAnyH_take (i := 18) (v := .slice rb (R.right (absC R c)).h cb) rfl (by kernel_rfl) (by kernel_rfl) (by kernel_rfl) (fun _ _ _ h => h) (Yields.yieldsIf (Or.inl ⟨by rfl, fun w => by go_simp⟩)) hS ?_
          refine wpAnyH_done (by kernel_rfl) ?_ _
          clear hS
          go_wp2_with fail
          refine (HDL.out _ _ _ hca).mono ?_
          rintro e w5 ⟨rfl, hb5⟩
          have hcb5 := hcb.below hb5
          have hb6 := below_step hb4 hb4.size hb5
          have hq6 := below_step hq4 hq4.size hb5
          clear hb4 hq4 hb5 hca hcb HDL
          go_wp2_with fail
          refine (HDR.out _ _ _ hcb5).mono ?_
          rintro e w7 ⟨rfl, hb7⟩
          have hb8 := below_step hb6 hb6.size hb7
          have hq8 := below_step hq6 hq6.size hb7
          clear hb6 hq6 hb7 hcb5 HDR
          by_cases hlr : dl < dr
          · have hlrI : (dl : Int) < (dr : Int) := by omega
            have hd9 : dr ≤ 9 := by omega
            have hdd : ((dd : Nat) : Int) = 1 + (dr : Int) := by omega
            rw [hdd] at hst
            clear hdk hdd hdl hdr
            by_cases hneg : y < 0
            · rw [if_pos (.inl hneg)] at hst
              have HE := Lib.hid hst
              clear hst
              go_wp2
              go_roundw
              case rel => exact ⟨i + 1, by omega, by go_num, by rw [HZZ.out, HE.out], hb8, hq8⟩
              case measure => simp [intOf]; omega
            · by_cases hlt : 1 + (dr : Int) < y
              · rw [if_pos (.inr hlt)] at hst
                have HE := Lib.hid hst
                clear hst
                go_wp2
                go_roundw
                case rel => exact ⟨i + 1, by omega, by go_num, by rw [HZZ.out, HE.out], hb8, hq8⟩
                case measure => simp [intOf]; omega
              · rw [if_neg (fun h => h.elim hneg hlt)] at hst
                have HE := Lib.hid hst
                clear hst
                go_wp2
                go_roundw
                case rel => exact ⟨i + 1, by omega, by go_num, by rw [HZZ.out, HE.out], hb8, hq8⟩
                case measure => simp [intOf]; omega
          · have hlrI : ¬ (dl : Int) < (dr : Int) := by omega
            have hd9 : dl ≤ 9 := by omega
            have hdd : ((dd : Nat) : Int) = 1 + (dl : Int) := by omega
            rw [hdd] at hst
            clear hdk hdd hdl hdr
            by_cases hneg : y < 0
            · rw [if_pos (.inl hneg)] at hst
              have HE := Lib.hid hst
              clear hst
              go_wp2
              go_roundw
              case rel => exact ⟨i + 1, by omega, by go_num, by rw [HZZ.out, HE.out], hb8, hq8⟩
              case measure => simp [intOf]; omega
            · by_cases hlt : 1 + (dl : Int) < y
              · rw [if_pos (.inr hlt)] at hst
                have HE := Lib.hid hst
                clear hst
                go_wp2
                go_roundw
                case rel => exact ⟨i + 1, by omega, by go_num, by rw [HZZ.out, HE.out], hb8, hq8⟩
                case measure => simp [intOf]; omega
              · rw [if_neg (fun h => h.elim hneg hlt)] at hst
                have HE := Lib.hid hst
                clear hst
                go_wp2
                go_roundw
                case rel => exact ⟨i + 1, by omega, by go_num, by rw [HZZ.out, HE.out], hb8, hq8⟩
                case measure => simp [intOf]; omega
        · have hke : i = K.length := by omega
          have hkI : ¬ (i : Int) < (K.length : Int) := by omega
          have HKE := Lib.hid (show lk i = lk K.length by rw [hke])
          clear hke
          go_wp2
          go_ret
          exact ⟨by rw [← HKE.out]; rfl, hb⟩
    · rw [h1] at HONE
      rw [Rc.deep_one h1]
      clear HIH h1 G B F C hn
      go_enter Try.func46, Try.ntmps46
      go_wp2_with fail
      refine HONE.out.mono ?_
      rintro e w1 ⟨rfl, hb1⟩
      go_wp2
      go_ret
      exact ⟨rfl, hb1⟩

set_option maxRecDepth 100000 in
set_option maxHeartbeats 4000000 in
theorem l3Ways_any {p : List ByteArray} (hp : PlanP p) : ∀ (n : Nat) (R : Rc) (ao : Option Addr) (cap : Nat) (w : World), R.Clo (gridG p) p.length (wideB p) → R.h + R.w ≤ n → CellsAt w ao ((subP p R).map Value.string) →
    Calls Try.prog 48 #[.slice ao R.h cap] w fun e w' => e = .returned (.int .i64 ((R.ways (gridG p) n : Nat) : Int)) ∧ Below w.heap.size w w'
  | 0, R, _, _, _, C, hn, _ => by have := C.fit.h1; omega
  | n + 1, R, ao, cap, w, C, hn, hc => by
    have B := boxy_of hp
    have F := C.fit
    have HIH := Lib.hid (fun R ao cap w C hn hc => l3Ways_any hp n R ao cap w C hn hc)
    have HONE := Lib.hid (l3OneR_any hp R ao cap w F hc)
    cases h1 : R.one (gridG p)
    · rw [h1] at HONE
      have hl := subP_len F; have hw := subP_wide hp.grid.even F
      have h6 := hp.grid.h6; have w6 := hp.grid.w6
      have f1 := F.h1; have f2 := F.w1; have f3 := F.hh; have f4 := F.hw
      have HCU := Lib.hid (fun w hc => l3Cuts_any ao cap (subP p R) w (by omega) (by omega) (by omega) (by omega) (subP_even hp.grid.even F) hc)
      rw [hl] at HCU
      have hmap := subP_cuts hp F
      have hlen : (R.cuts (gridG p)).length = (cutsQ (subP p R)).length := by rw [hmap, List.length_map]
      have hget : ∀ i, i < (cutsQ (subP p R)).length → (R.cuts (gridG p)).getD i (0, 0) = absC R ((cutsQ (subP p R)).getD i (0, 0)) := fun i hi => by rw [hmap]; simp [hi]
      have hk72 := cutsQ_len (q := subP p R) (by omega) (by omega) (by omega) (by omega)
      have HK := Lib.hid (fun i (hi : i < (cutsQ (subP p R)).length) => by
        have hi' : i < (R.cuts (gridG p)).length := by omega
        have hmem := getD_mem (l := R.cuts (gridG p)) (0, 0) hi'
        have hm := Rc.cuts_mem hmem
        have hd := cutsQ_mem (by omega : 1 ≤ wideB (subP p R)) (getD_mem (l := cutsQ (subP p R)) (0, 0) hi)
        have f1 := Rc.fit_left F hm.2.1; have f2 := Rc.fit_right F hm.2.1
        have cl := C.left B.rect hm.2.1 hm.2.2; have cr := C.right B.rect hm.2.1 hm.2.2
        have dl := Nat.le_trans (B.ways_few (n := n) cl (by omega)) (Nat.pow_le_pow_right (n := 10) (by omega) (show ((R.left ((R.cuts (gridG p)).getD i (0, 0))).rooms (gridG p) (gridR p)).length - 1 ≤ 8 by have := Nat.le_trans (Rc.rooms_few (g := gridG p) (r := gridR p) (R := R.left ((R.cuts (gridG p)).getD i (0, 0)))) B.few; omega))
        have dr := Nat.le_trans (B.ways_few (n := n) cr (by omega)) (Nat.pow_le_pow_right (n := 10) (by omega) (show ((R.right ((R.cuts (gridG p)).getD i (0, 0))).rooms (gridG p) (gridR p)).length - 1 ≤ 8 by have := Nat.le_trans (Rc.rooms_few (g := gridG p) (r := gridR p) (R := R.right ((R.cuts (gridG p)).getD i (0, 0)))) B.few; omega))
        have s := sumK_step (n := n) hi'
        rw [hget i hi] at hm f1 f2 cl cr dl dr s
        exact And.intro (fun w hc => l3PartsR_any hp R _ ao cap w F hd.1 hd.2.2 hm.2.1 hc) (And.intro (fun ao cap w hc => HIH.out _ ao cap w cl (by omega) hc) (And.intro (fun ao cap w hc => HIH.out _ ao cap w cr (by omega) hc) (And.intro s (And.intro dl dr)))))
      have HAL := Lib.hid (sumK_all (g := gridG p) (n := n) h1)
      have HZ := Lib.hid (sumK_zero (gridG p) n R)
      have HLE := Lib.hid (fun i (hi : i ≤ (R.cuts (gridG p)).length) => sumK_le (n := n) (i := i) (m := 10 ^ 16) (R := R) (g := gridG p) hi (fun i hi => by
        obtain ⟨-, -, -, -, d1, d2⟩ := HK.out i (by omega)
        rw [hget i (by omega)]
        exact Nat.le_trans (Nat.mul_le_mul d1 d2) (by decide)))
      rw [hlen] at HLE
      rw [hlen] at HAL
      rw [← HAL.out]
      have HC := Lib.hid hc
      clear HIH h1 hc HAL hget hlen hmap hl hw h6 w6 f1 f2 f3 f4 C F B hn
      generalize sumK (gridG p) n R = lk at *
      generalize cutsQ (subP p R) = K at *
      go_enter Try.func48, Try.ntmps48
      go_wp2_with fail
      refine HONE.out.mono ?_
      rintro e w1 ⟨rfl, hb1⟩
      go_wp2_with fail
      refine (HCU.out _ (HC.out.below hb1)).mono ?_
      rintro e w2 ⟨ro, rc, vs, rfl, hcl, hin, hb2⟩
      have hb3 := below_step hb1 hb1.size hb2
      have HCL := Lib.hid hcl
      have HIN := Lib.hid hin
      clear hcl hin HCU HONE hb1 hb2
      go_wp2
      go_loopw [3, 5] (fun vd vi wr => ∃ (i : Nat), i ≤ K.length ∧ vi = .int .i64 (i : Int) ∧ vd = .int .i64 ((lk i : Nat) : Int) ∧ Below w.heap.size w wr ∧ Below w2.heap.size w2 wr) (fun _ vi _ => K.length - (intOf vi).toNat)
      case atStart => exact ⟨0, Nat.zero_le _, rfl, by rw [HZ.out]; rfl, hb3, Below.refl _ _⟩
      case round =>
        clear hb3
        obtain ⟨i, hi, rfl, rfl, hb, hbq⟩ := hrel
        by_cases hik : i < K.length
        · have hikI : (i : Int) < (K.length : Int) := by omega
          obtain ⟨hAP, hDL, hDR, hst, hdl, hdr⟩ := HK.out i hik
          obtain ⟨g, c0, -, -, e1, k0, k1⟩ := (HIN.out.below hbq).2 i hik
          obtain ⟨vb, vo, rfl, kv⟩ := (HCL.out.below hbq) _ _ e1
          have hc2 := HC.out.below hb
          have hle := HLE.out i hi
          have HAP := Lib.hid hAP; have HDL := Lib.hid hDL; have HDR := Lib.hid hDR
          clear hAP hDL hDR e1
          generalize K.getD i (0, 0) = c at *
          generalize (R.left (absC R c)).ways (gridG p) n = dl at *
          generalize (R.right (absC R c)).ways (gridG p) n = dr at *
          generalize hy : lk i = y at *
          generalize hz : lk (i + 1) = z at *
          have HZZ := Lib.hid hz
          clear hy hz
          go_wp2
          refine wp_region_held (S := fun W => HeldCut W vb (vo + i) g c0 c) (by kernel_rfl) ?_
          replace hb : Below w.heap.size w ({ wr with drawn := wr.drawn + 1 } : World) := hb.trans (below_drewN w.heap.size wr 1)
          replace hbq : Below w2.heap.size w2 ({ wr with drawn := wr.drawn + 1 } : World) := hbq.trans (below_drewN w2.heap.size wr 1)
          replace hc2 : CellsAt ({ wr with drawn := wr.drawn + 1 } : World) ao ((subP p R).map Value.string) := hc2
          have hS : HeldCut ({ wr with drawn := wr.drawn + 1 } : World) vb (vo + i) g c0 c := ⟨kv, k0, k1⟩
          clear kv k0 k1
          generalize ({ wr with drawn := wr.drawn + 1 } : World) = W6 at *
          change Go.wpAnyH Try.prog Region.Mode.any _ _ _ 19 (Array.replicate 19 false) _ _
          refine wpAnyH_take (i := 0) (v := .slice ao R.h cap) rfl (by kernel_rfl) (by kernel_rfl) (by kernel_rfl) (fun _ _ _ h => h) (Yields.yieldsIf (Or.inl ⟨by rfl, fun w => by go_simp⟩)) hS ?_
          refine wpAnyH_take (i := 1) (v := .slice (some ⟨vb, vo, none⟩) K.length rc) rfl (by kernel_rfl) (by kernel_rfl) (by kernel_rfl) (fun _ _ _ h => h) (Yields.yieldsIf (Or.inl ⟨by rfl, fun w => by go_simp⟩)) hS ?_
          refine wpAnyH_take (i := 2) (v := .int .i64 (i : Int)) rfl (by kernel_rfl) (by kernel_rfl) (by kernel_rfl) (fun _ _ _ h => h) (Yields.yieldsIf (Or.inl ⟨by rfl, fun w => by go_simp⟩)) hS ?_
          refine wpAnyH_take (i := 3) (v := .pointer (some ⟨vb, vo + i, none⟩)) rfl (by kernel_rfl) (by kernel_rfl) (by kernel_rfl) (fun _ _ _ h => h) (Yields.yieldsIf (Or.inl ⟨by rfl, fun w => by go_simp⟩)) hS ?_
          refine wpAnyH_take (i := 4) (v := .slice (some ⟨g, 0, none⟩) 4 c0) rfl (by kernel_rfl) (by kernel_rfl) (by kernel_rfl) (fun _ _ _ h => h) (yieldsIf_cell (by rfl) 34 _ rfl _ (fun w' hw => by have hc := hw.1; go_simp)) hS ?_
          refine wpAnyH_take (i := 5) (v := .pointer (some ⟨g, 0, none⟩)) rfl (by kernel_rfl) (by kernel_rfl) (by kernel_rfl) (fun _ _ _ h => h) (Yields.yieldsIf (Or.inl ⟨by rfl, fun w => by go_simp⟩)) hS ?_
          refine wpAnyH_take (i := 6) (v := .int .i64 ((c.1 : Nat) : Int)) rfl (by kernel_rfl) (by kernel_rfl) (by kernel_rfl) (fun _ _ _ h => h) (yieldsIf_cell (by rfl) 3 _ rfl _ (fun w' hw => by have hc := hw.2.1; go_simp)) hS ?_
          refine wpAnyH_take (i := 7) (v := .slice (some ⟨vb, vo, none⟩) K.length rc) rfl (by kernel_rfl) (by kernel_rfl) (by kernel_rfl) (fun _ _ _ h => h) (Yields.yieldsIf (Or.inl ⟨by rfl, fun w => by go_simp⟩)) hS ?_
          refine wpAnyH_take (i := 8) (v := .int .i64 (i : Int)) rfl (by kernel_rfl) (by kernel_rfl) (by kernel_rfl) (fun _ _ _ h => h) (Yields.yieldsIf (Or.inl ⟨by rfl, fun w => by go_simp⟩)) hS ?_
          refine wpAnyH_take (i := 9) (v := .pointer (some ⟨vb, vo + i, none⟩)) rfl (by kernel_rfl) (by kernel_rfl) (by kernel_rfl) (fun _ _ _ h => h) (Yields.yieldsIf (Or.inl ⟨by rfl, fun w => by go_simp⟩)) hS ?_
          refine wpAnyH_take (i := 10) (v := .slice (some ⟨g, 0, none⟩) 4 c0) rfl (by kernel_rfl) (by kernel_rfl) (by kernel_rfl) (fun _ _ _ h => h) (yieldsIf_cell (by rfl) 34 _ rfl _ (fun w' hw => by have hc := hw.1; go_simp)) hS ?_
          refine wpAnyH_take (i := 11) (v := .pointer (some ⟨g, 1, none⟩)) rfl (by kernel_rfl) (by kernel_rfl) (by kernel_rfl) (fun _ _ _ h => h) (Yields.yieldsIf (Or.inl ⟨by rfl, fun w => by go_simp⟩)) hS ?_
          refine wpAnyH_take (i := 12) (v := .int .i64 ((c.2 : Nat) : Int)) rfl (by kernel_rfl) (by kernel_rfl) (by kernel_rfl) (fun _ _ _ h => h) (yieldsIf_cell (by rfl) 3 _ rfl _ (fun w' hw => by have hc := hw.2.2; go_simp)) hS ?_
          refine wpAnyH_all (rs := [13]) (by kernel_rfl) (by decide) ?_
          intro i' hi'
          simp only [List.mem_cons, List.not_mem_nil, or_false] at hi'
          subst hi'
          refine wpOp_go rfl (by rfl) ?_
          unfold Oper.wp
          go_simp
          refine (HAP.out _ hc2).mono ?_
          rintro e w3 ⟨ra, ca, rb, cb, rfl, hca, hcb, hb3⟩
          replace hS := hS.below hb3
          refine ⟨hS, ?_⟩
          have hb4 := below_step hb hb.size hb3
          have hq4 := below_step hbq hbq.size hb3
          clear HAP hb3 hb hbq hc2
          refine wpAnyH_take (i := 14) (v := .tuple #[.slice ra (R.left (absC R c)).h ca, .slice rb (R.right (absC R c)).h cb]) rfl (by kernel_rfl) (by kernel_rfl) (by kernel_rfl) (fun _ _ _ h => h) (Yields.yieldsIf (Or.inl ⟨by rfl, fun w => by go_simp⟩)) hS ?_
          refine wpAnyH_take (i := 15) (v := .slice ra (R.left (absC R c)).h ca) rfl (by kernel_rfl) (by kernel_rfl) (by kernel_rfl) (fun _ _ _ h => h) (Yields.yieldsIf (Or.inl ⟨by rfl, fun w => by go_simp⟩)) hS ?_
          refine wpAnyH_take (i := 16) (v := .slice rb (R.right (absC R c)).h cb) rfl (by kernel_rfl) (by kernel_rfl) (by kernel_rfl) (fun _ _ _ h => h) (Yields.yieldsIf (Or.inl ⟨by rfl, fun w => by go_simp⟩)) hS ?_
          refine wpAnyH_take (i := 17) (v := .slice ra (R.left (absC R c)).h ca) rfl (by kernel_rfl) (by kernel_rfl) (by kernel_rfl) (fun _ _ _ h => h) (Yields.yieldsIf (Or.inl ⟨by rfl, fun w => by go_simp⟩)) hS ?_
          refine wpAnyH_take (i := 18) (v := .slice rb (R.right (absC R c)).h cb) rfl (by kernel_rfl) (by kernel_rfl) (by kernel_rfl) (fun _ _ _ h => h) (Yields.yieldsIf (Or.inl ⟨by rfl, fun w => by go_simp⟩)) hS ?_
          refine wpAnyH_done (by kernel_rfl) ?_ _
          clear hS
          go_wp2_with fail
          refine (HDL.out _ _ _ hca).mono ?_
          rintro e w5 ⟨rfl, hb5⟩
          have hcb5 := hcb.below hb5
          have hb6 := below_step hb4 hb4.size hb5
          have hq6 := below_step hq4 hq4.size hb5
          clear hb4 hq4 hb5 hca hcb HDL
          go_wp2_with fail
          refine (HDR.out _ _ _ hcb5).mono ?_
          rintro e w7 ⟨rfl, hb7⟩
          have hb8 := below_step hb6 hb6.size hb7
          have hq8 := below_step hq6 hq6.size hb7
          clear hb6 hq6 hb7 hcb5 HDR
          have hpr : dl * dr ≤ 10 ^ 8 * 10 ^ 8 := Nat.mul_le_mul hdl hdr
          have w1 : IntKind.i64.wrap ((dl : Int) * (dr : Int)) = ((dl * dr : Nat) : Int) := by rw [← Int.natCast_mul]; exact IntWalk.i64_in _ (by omega)
          have w2 : wrap64 ((dl : Int) * (dr : Int)) = ((dl * dr : Nat) : Int) := by
            rw [← Int.natCast_mul]; generalize dl * dr = dp at *; unfold wrap64; omega
          have HE := Lib.hid (show (y : Int) + ((dl * dr : Nat) : Int) = (z : Int) by rw [hst]; omega)
          generalize dl * dr = dp at *
          clear hst hdl hdr
          go_wp2
          go_roundw
          case rel => exact ⟨i + 1, by omega, by go_num, by rw [HZZ.out, ← HE.out], hb8, hq8⟩
          case measure => simp [intOf]; omega
        · have hke : i = K.length := by omega
          have hkI : ¬ (i : Int) < (K.length : Int) := by omega
          have HKE := Lib.hid (show lk i = lk K.length by rw [hke])
          clear hke
          go_wp2
          go_ret
          exact ⟨by rw [← HKE.out]; rfl, hb⟩
    · rw [h1] at HONE
      rw [Rc.ways_one h1]
      clear HIH h1 B F C hn
      go_enter Try.func48, Try.ntmps48
      go_wp2_with fail
      refine HONE.out.mono ?_
      rintro e w1 ⟨rfl, hb1⟩
      go_wp2
      go_ret
      exact ⟨rfl, hb1⟩

set_option maxRecDepth 100000 in
set_option maxHeartbeats 2000000 in
theorem specCutDeep_any (ao : Option Addr) (cap : Nat) (p : List ByteArray) (w : World) (hl : p.length ≤ 1048576) (hs : ∀ s ∈ p, s.size ≤ 1048576) (hc : CellsAt w ao (p.map Value.string)) :
    Calls Try.prog 22 #[.slice ao p.length cap] w fun e w' => e = .returned (.tuple #[.int .i64 ((deepP p : Nat) : Int), .bool (treeP p).isSome]) ∧ Below w.heap.size w w' := by
  have HR := Lib.hid (specCutIs_any ao cap p w hl hs hc)
  cases hT : (treeP p).isSome
  · rw [show deepP p = 0 by unfold deepP; rw [hT]; rfl]
    rw [hT] at HR
    clear hT
    go_enter Try.func22, Try.ntmps22
    go_wp2_with (go_at_call 11; refine HR.out.mono ?_; rintro e w1 ⟨rfl, hb1⟩)
    go_ret2
    exact ⟨rfl, hb1⟩
  · have h : planB p = true := by
      cases hp : planB p
      · rw [treeP_no hp] at hT; cases hT
      · rfl
    have hG : Gui (gridG p) (allR p) := by
      rw [treeP_yes h] at hT
      obtain ⟨t, ht⟩ := Option.isSome_iff_exists.1 hT
      exact Gui.of_tree ht
    have HD := Lib.hid (fun w hc => l3Deep_any (planP_of h) 12 (allR p) ao cap w (allR_clo h) (allR_fit h).2 hG hc)
    have e1 : subP p (allR p) = p := subP_all (planP_of h).grid.even
    have e2 : (allR p).h = p.length := rfl
    rw [e1, e2] at HD
    rw [show deepP p = (allR p).deep (gridG p) 12 by unfold deepP; rw [hT]; rfl]
    rw [hT] at HR
    have HC := Lib.hid hc
    clear hT h hG e1 e2 hc
    generalize (allR p).deep (gridG p) 12 = v at *
    go_enter Try.func22, Try.ntmps22
    go_wp2_with (first
      | (go_at_call 11; refine HR.out.mono ?_; rintro e w1 ⟨rfl, hb1⟩)
      | (go_at_call 46; refine (HD.out _ (HC.out.below hb1)).mono ?_; rintro e w2 ⟨rfl, hb2⟩))
    go_ret2
    exact ⟨rfl, below_step hb1 hb1.size hb2⟩

set_option maxRecDepth 100000 in
set_option maxHeartbeats 2000000 in
theorem specCutWays_any (ao : Option Addr) (cap : Nat) (p : List ByteArray) (w : World) (hl : p.length ≤ 1048576) (hs : ∀ s ∈ p, s.size ≤ 1048576) (hc : CellsAt w ao (p.map Value.string)) :
    Calls Try.prog 25 #[.slice ao p.length cap] w fun e w' => e = .returned (.tuple #[.int .i64 ((waysP p : Nat) : Int), .bool (treeP p).isSome]) ∧ Below w.heap.size w w' := by
  have HR := Lib.hid (specCutIs_any ao cap p w hl hs hc)
  cases hT : (treeP p).isSome
  · rw [show waysP p = 0 by unfold waysP; rw [hT]; rfl]
    rw [hT] at HR
    clear hT
    go_enter Try.func25, Try.ntmps25
    go_wp2_with (go_at_call 11; refine HR.out.mono ?_; rintro e w1 ⟨rfl, hb1⟩)
    go_ret2
    exact ⟨rfl, hb1⟩
  · have h : planB p = true := by
      cases hp : planB p
      · rw [treeP_no hp] at hT; cases hT
      · rfl
    have hG : Gui (gridG p) (allR p) := by
      rw [treeP_yes h] at hT
      obtain ⟨t, ht⟩ := Option.isSome_iff_exists.1 hT
      exact Gui.of_tree ht
    have HD := Lib.hid (fun w hc => l3Ways_any (planP_of h) 12 (allR p) ao cap w (allR_clo h) (allR_fit h).2 hc)
    have e1 : subP p (allR p) = p := subP_all (planP_of h).grid.even
    have e2 : (allR p).h = p.length := rfl
    rw [e1, e2] at HD
    rw [show waysP p = (allR p).ways (gridG p) 12 by unfold waysP; rw [hT]; rfl]
    rw [hT] at HR
    have HC := Lib.hid hc
    clear hT h hG e1 e2 hc
    generalize (allR p).ways (gridG p) 12 = v at *
    go_enter Try.func25, Try.ntmps25
    go_wp2_with (first
      | (go_at_call 11; refine HR.out.mono ?_; rintro e w1 ⟨rfl, hb1⟩)
      | (go_at_call 48; refine (HD.out _ (HC.out.below hb1)).mono ?_; rintro e w2 ⟨rfl, hb2⟩))
    go_ret2
    exact ⟨rfl, below_step hb1 hb1.size hb2⟩

end Go.Proofs.Ytcndlfkmmgdpaaa
