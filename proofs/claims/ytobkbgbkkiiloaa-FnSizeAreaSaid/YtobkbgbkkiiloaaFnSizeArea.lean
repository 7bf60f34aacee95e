
/-
  For every slice of bytes the law FnSizeArea returns true, and the slice reads behind the call as it read before. No condition.
-/
import Derived.Test.YtobkbgbkkiiloaaSizF
import Derived.Test.YtobkbgbkkiiloaaDrawQ
import Derived.Test.YtobkbgbkkiiloaaDraw
import Derived.Test.YtobkbgbkkiiloaaLaws
namespace Go.Proofs.Ytobkbgbkkiiloaa
open Go.ChangeShapes Go.WideShapes Go.ChangeAt Go.RowKit

set_option maxRecDepth 100000 in
set_option maxHeartbeats 4000000 in
theorem fnSizeArea_all (aC : Option Addr) (kC : Nat) (lC : List UInt8) (w : World) (mC : lC.length ≤ maxLen) (zC : lC.length ≤ kC) (cC : CellsAt w aC (lC.map byteV)) :
    Calls Try.prog 3 #[.slice aC lC.length kC] w fun e w' => e = .returned (.bool true) ∧ Below w.heap.size w w' := by
  have mC2 := mC
  clear mC2
  by_cases dC : lC.length ≤ 1048576
  · have hdC : decide (1048576 < (lC.length : Int)) = false := by rw [decide_eq_false_iff_not]; omega
    go_enter Try.func3, Try.ntmps3
    go_wp2_with fail
    refine (drawSizeArea_any _ _ _ _ zC dC cC).mono ?_
    rintro e w1 ⟨⟨roP, rcP, lP, roN, rcN, lN, roM, rcM, lM, hsm, hln, hlm, rfl, c_P, c_N, c_M⟩, hb⟩
    have hB := hb
    clear hb
    have LP : lP.length ≤ 1048576 := by have := hsm.2.1; omega
    have SP : ∀ s ∈ lP, s.size ≤ 1048576 := fun s h => by have := hsm.2.2 s h; omega
    have LN : lN.length ≤ 1048576 := by omega
    have LM : lM.length ≤ 1048576 := by omega
    cases hp : (sizedB lP lN && sizedB lP lM)
    · -- no such plan
      have HI := Lib.hid (fun w c d e => implSizeArea_any roP roN roM rcP rcN rcM lP lN lM w LP SP LN LM c d e)
      have HS := Lib.hid (fun w c d e => specSizeArea_any roP roN roM rcP rcN rcM lP lN lM w LP SP LN LM c d e)
      rw [hp] at HI HS
      generalize areaZ lP lN lM = v at *
      clear hp
      go_wp2_with fail
      refine (HI.out _ c_P c_N c_M).mono ?_
      rintro e w2 ⟨rfl, hb⟩
      replace c_P := c_P.below hb
      replace c_N := c_N.below hb
      replace c_M := c_M.below hb
      replace hB := below_step hB hB.size hb
      clear hb
      go_wp2_with fail
      refine (HS.out _ c_P c_N c_M).mono ?_
      rintro e w3 ⟨rfl, hb⟩
      replace c_P := c_P.below hb
      replace c_N := c_N.below hb
      replace c_M := c_M.below hb
      replace hB := below_step hB hB.size hb
      clear hb
      go_wp2
      go_ret
      exact ⟨rfl, hB⟩
    · -- a plan with needs
      have HI := Lib.hid (fun w c d e => implSizeArea_any roP roN roM rcP rcN rcM lP lN lM w LP SP LN LM c d e)
      have HS := Lib.hid (fun w c d e => specSizeArea_any roP roN roM rcP rcN rcM lP lN lM w LP SP LN LM c d e)
      have HW := Lib.hid (fun w c d => implSizeWide_any roP roN rcP rcN lP lN w LP SP LN c d)
      have HH := Lib.hid (fun w c d => implSizeHigh_any roP roM rcP rcM lP lM w LP SP LM c d)
      obtain ⟨h1, h2⟩ := (Bool.and_eq_true _ _).mp hp
      have hm := sizeAreas_math h1 h2
      obtain ⟨k1, k2, k3⟩ := sizedB_yes h1
      obtain ⟨m1, m2, m3⟩ := sizedB_yes h2
      have hr9 := (sized_facts h1).2.2.2.1
      have hmb := mul_bound (wideV_le lP lN (way := 0) (by omega)) (wideV_le lP lM (way := 1) (by omega))
      have hz : areaZ lP lN lM = wideV lP lN 0 * wideV lP lM 1 := rfl
      rw [hp, hz] at HI HS
      rw [h1] at HW
      rw [h2] at HH
      have hX := wideV_le lP lN (way := 0) (by omega)
      have hY := wideV_le lP lM (way := 1) (by omega)
      generalize wideV lP lN 0 = X at *
      generalize wideV lP lM 1 = Y at *
      generalize hZ : X * Y = Z at *
      clear hz hZ
      have HNN := Lib.hid (fun a (ha : a < lN.length) => needB_at k3 ha)
      have HNM := Lib.hid (fun a (ha : a < lM.length) => needB_at m3 ha)
      have hlen : lM.length = lN.length := by omega
      have HLEN := Lib.hid hlen
      have hl9 : lN.length ≤ 9 := by omega
      clear hp h1 h2 k1 k2 k3 m1 m2 m3 hr9 hlen
      go_wp2_with fail
      refine (HI.out _ c_P c_N c_M).mono ?_
      rintro e w4 ⟨rfl, hb⟩
      replace c_P := c_P.below hb
      replace c_N := c_N.below hb
      replace c_M := c_M.below hb
      replace hB := below_step hB hB.size hb
      clear hb
      go_wp2_with fail
      refine (HS.out _ c_P c_N c_M).mono ?_
      rintro e w5 ⟨rfl, hb⟩
      replace c_P := c_P.below hb
      replace c_N := c_N.below hb
      replace c_M := c_M.below hb
      replace hB := below_step hB hB.size hb
      clear hb
      go_wp2_with fail
      refine (HW.out _ c_P c_N).mono ?_
      rintro e w6 ⟨rfl, hb⟩
      replace c_P := c_P.below hb
      replace c_N := c_N.below hb
      replace c_M := c_M.below hb
      replace hB := below_step hB hB.size hb
      clear hb
      go_wp2_with fail
      refine (HH.out _ c_P c_M).mono ?_
      rintro e w7 ⟨rfl, hb⟩
      replace c_P := c_P.below hb
      replace c_N := c_N.below hb
      replace c_M := c_M.below hb
      replace hB := below_step hB hB.size hb
      clear hb
      have HMB := Lib.hid hmb
      have HM := Lib.hid hm
      clear hmb hm
      have CN := Lib.hid c_N; have CM := Lib.hid c_M; have HB9 := Lib.hid hB
      clear c_P c_N c_M hB
      go_wp2
      go_loopw [14, 15] (fun vs vi wr => ∃ i : Nat, i ≤ lN.length ∧ vi = .int .i64 i ∧ vs = .int .i64 (((List.range i).map fun a => dN lN a * dN lM a).sum : Nat) ∧ Hid (((List.range i).map fun a => dN lN a * dN lM a).sum ≤ 81 * i) ∧ Below w7.heap.size w7 wr) (fun _ vi _ => lN.length - (intOf vi).toNat)
      case atStart => exact ⟨0, Nat.zero_le _, rfl, rfl, Lib.hid (Nat.le_refl _), Below.refl _ _⟩
      case round =>
        obtain ⟨i, hi, rfl, rfl, hs, hq⟩ := hrel
        by_cases hlt : i < lN.length
        · have hlt' : decide ((i : Int) < (lN.length : Int)) = true := by rw [decide_eq_true_eq]; omega
          have hlt2 : (i : Int) < (lN.length : Int) := by omega
          have hlm2 : (i : Int) < (lM.length : Int) := by have := HLEN.out; omega
          obtain ⟨bn, on, rfl, kn⟩ := (CN.out.below hq).int i (by omega)
          obtain ⟨bm, om, rfl, km⟩ := (CM.out.below hq).int i (by have := HLEN.out; omega)
          obtain ⟨n1, n2, n3⟩ := HNN.out i hlt
          obtain ⟨m1, m2, m3⟩ := HNM.out i (by have := HLEN.out; omega)
          rw [n1] at kn
          rw [m1] at km
          clear n1 m1
          have hsum : ((List.range (i + 1)).map fun a => dN lN a * dN lM a).sum = ((List.range i).map fun a => dN lN a * dN lM a).sum + dN lN i * dN lM i := by rw [List.range_succ, List.map_append, List.sum_append]; simp
          have HSUM := Lib.hid hsum; clear hsum
          have hs2 := hs.out; clear hs
          generalize ((List.range i).map fun a => dN lN a * dN lM a).sum = S at *
          generalize dN lN i = x at *
          generalize dN lM i = y at *
          obtain ⟨hxy, hwm⟩ := mul_facts n3 m3
          have HWM := Lib.hid hwm; clear hwm
          have hi9 : i ≤ 8 := by omega
          have hS81 : S ≤ 648 := by omega
          have HSA : S + x * y ≤ 81 * (i + 1) := Nat.le_trans (Nat.add_le_add hs2 hxy) (Nat.le_of_eq (Nat.mul_succ 81 i).symm)
          generalize x * y = xy at *
          have HSB := Lib.hid HSA; clear HSA
          have hsx : S + xy ≤ 729 := by omega
          have HWA := Lib.hid ((wrap64_small (x := (S : Int) + (xy : Int)) (by omega) (by omega)).trans (Int.natCast_add S xy).symm); clear hsx
          go_wp2
          go_region
          all_goals
            go_wp2
            go_roundw
            case rel => exact ⟨i + 1, by omega, by go_num, by rw [HSUM.out]; first | (rw [HWM.out, HWA.out]) | (rw [HWA.out]), Lib.hid (by rw [HSUM.out]; exact HSB.out), by first | exact hq | exact hq.trans (below_drewN _ _ _)⟩
            case measure => simp [intOf]; omega
        · obtain rfl : i = lN.length := by omega
          have hlt' : decide ((lN.length : Int) < (lN.length : Int)) = false := by rw [decide_eq_false_iff_not]; omega
          have hB := below_step HB9.out HB9.out.size hq
          have hmb := HMB.out
          have hm := HM.out
          generalize ((List.range lN.length).map fun a => dN lN a * dN lM a).sum = S at *
          have d1 : decide ((S : Int) ≤ (Z : Int)) = true := by rw [decide_eq_true_eq]; omega
          have d2 : decide (S ≤ Z) = true := by rw [decide_eq_true_eq]; omega
          go_wp2
          go_ret
          exact ⟨rfl, hB⟩
  · have hdC : decide (1048576 < (lC.length : Int)) = true := by rw [decide_eq_true_eq]; omega
    go_enter Try.func3, Try.ntmps3
    go_wp2
    go_ret
    exact ⟨rfl, Below.refl _ _⟩

set_option maxRecDepth 100000 in
theorem fnSizeArea_lifted (os : Os) (started : os.Started) (H : Type) (enc : TypeId × Value → H) :
    ReturnsInHanded {} Try.checked os 3 .any (Rows.fnSizeAreaSpec.pre6 enc Try.prog Try.f3 Rows.fnSizeAreaRow.domain false) (Rows.fnSizeAreaSpec.post enc Try.prog Try.f3 false true false false) := by
  refine returnsInHanded_of_change (C := Try.checked) Try.own started (by kernel_rfl) Try.func3
    (ChangeSpec.witness6 (enc := enc) (C := Try.checked) false ⟨#[], #[.slice none 0 0], []⟩ 8 (by kernel_rfl) (by kernel_rfl) (by kernel_rfl) (by kernel_rfl)) ?_
  intro W base args ds gs before hval0 hW _ _
  have hval : ∀ (j : Nat) t v, Try.f3.params[j]? = some t → args[j]? = some v → Value.okWide Try.prog W .any base t v := hval0
  have hW' := hW
  obtain ⟨p, q, hA0, hV, rfl, _, _⟩ := hW
  have hA : DataW.TrodAll enc Try.prog W 0 (fun _ => true) true Try.f3.params.toList args.toList ds p := hA0
  rw [Try.params3] at hA hval
  obtain ⟨v0, d0, rfl, rfl, h0⟩ := trodAll_one hA
  obtain ⟨rfl, rfl⟩ := trodVars_none hV
  obtain ⟨aC, eC, kC, rfl⟩ := okWide_slice Try.underlying22 (hval 0 22 v0 rfl rfl)
  clear hA0 hval0
  simp only [List.append_nil] at hW'
  have hlt0 : ∀ x ∈ p, x.block < W.heap.size := fun x hx => by simpa using hW'.lt x (by simp [hx])
  obtain ⟨lC, rfl, mC, zC, cC⟩ := open_bytes h0
  refine (fnSizeArea_all aC kC lC W mC zC cC).mono fun e W' ⟨he, hb⟩ => ?_
  subst he
  refine ⟨_, rfl, _, _, _, [], _, [], hW', trodAll_mk1 (shut_bool Try.underlying4 _), trodAll_mk1 (Below.trod Try.laidOut (by kernel_rfl) (of_decide_eq_true (by kernel_rfl)) h0 hb hlt0), rfl, hb.frame _, fun h => by cases h⟩

theorem fnSizeArea_holds : Rows.FnSizeAreaSaid :=
  OpenClaim.holds_of_wide 3 Try.f3 rfl rfl rfl rfl rfl rfl rfl ⟨rfl, rfl, rfl, rfl, rfl⟩ rfl rfl rfl rfl rfl (by kernel_rfl) Try.func3 (by kernel_rfl)
    (of_decide_eq_true (by kernel_rfl)) (by unfold Func.isWrapper; first | (rw [if_pos (by decide +kernel)]; kernel_rfl) | (rw [if_neg (by decide +kernel)]; exact ⟨rfl, rfl⟩))
    (fun os started H enc _ => fnSizeArea_lifted os started H enc)

end Go.Proofs.Ytobkbgbkkiiloaa
