
/-
  For every slice of bytes the law FnHighNeeds returns true, and the slice reads behind the call as it read before. No condition.
-/
import Derived.Test.YtobkbgbkkiiloaaGreatHigh
import Derived.Test.YtobkbgbkkiiloaaGreatDrawQ
import Derived.Test.YtobkbgbkkiiloaaGreatDraw
import Derived.Test.YtobkbgbkkiiloaaGreatLaws
namespace Go.Proofs.YtobkbgbkkiiloaaGreat
open Go.ChangeShapes Go.WideShapes Go.ChangeAt Go.RowKit

set_option maxRecDepth 100000 in
set_option maxHeartbeats 4000000 in
theorem fnHighNeeds_all (aC : Option Addr) (kC : Nat) (lC : List UInt8) (w : World) (mC : lC.length ≤ maxLen) (zC : lC.length ≤ kC) (cC : CellsAt w aC (lC.map byteV)) :
    Calls Tryz.prog 4 #[.slice aC lC.length kC] w fun e w' => e = .returned (.bool true) ∧ Below w.heap.size w w' := by
  have mC2 := mC
  clear mC2
  by_cases dC : lC.length ≤ 1048576
  · have hdC : decide (1048576 < (lC.length : Int)) = false := by rw [decide_eq_false_iff_not]; omega
    go_enter Tryz.func4, Tryz.ntmps4
    go_wp2_with fail
    refine (drawSizeHigh_any _ _ _ _ zC dC cC).mono ?_
    rintro e w1 ⟨⟨roP, rcP, lP, roN, rcN, lN, hsm, hln, rfl, c_P, c_N⟩, hb⟩
    have hB := hb
    clear hb
    have LP : lP.length ≤ 1048576 := by have := hsm.2.1; omega
    have SP : ∀ s ∈ lP, s.size ≤ 1048576 := fun s h => by have := hsm.2.2 s h; omega
    have LN : lN.length ≤ 1048576 := by omega
    cases hp : sizedB lP lN
    · -- no needs
      have HI := Lib.hid (fun w c d => implSizeHigh_any roP roN rcP rcN lP lN w LP SP LN c d)
      have HS := Lib.hid (fun w c d => specSizeHigh_any roP roN rcP rcN lP lN w LP SP LN c d)
      rw [hp] at HI HS
      generalize wideV lP lN 1 = v at *
      clear hp
      go_wp2_with fail
      refine (HI.out _ c_P c_N).mono ?_
      rintro e w2 ⟨rfl, hb⟩
      replace c_P := c_P.below hb
      replace c_N := c_N.below hb
      replace hB := below_step hB hB.size hb
      clear hb
      go_wp2_with fail
      refine (HS.out _ c_P c_N).mono ?_
      rintro e w3 ⟨rfl, hb⟩
      replace c_P := c_P.below hb
      replace c_N := c_N.below hb
      replace hB := below_step hB hB.size hb
      clear hb
      go_wp2
      go_ret
      exact ⟨rfl, hB⟩
    · -- needs
      obtain ⟨im, hmi, hmz, hm1, hm2⟩ := info_parts Tryz.infoNum
      have HI := Lib.hid (fun w c d => implSizeHigh_any roP roN rcP rcN lP lN w LP SP LN c d)
      have HS := Lib.hid (fun w c d => specSizeHigh_any roP roN rcP rcN lP lN w LP SP LN c d)
      have HT := Lib.hid (fun w c => implTrans_any roP rcP lP w LP SP c)
      obtain ⟨h1, h2, h3, h4, h5, h6⟩ := sized_facts hp
      have hpl := plainB_plan h1
      obtain ⟨τ, hτ⟩ := trans_rooms hpl
      have hpo := (Is.trans (Is.self hpl)).plan
      have LQ := (plan_small hpo).1
      have SQ := (plan_small hpo).2
      have HM := Lib.hid (fun (S : List Nat) (h : HiS lP (namesB (transB lP)) (dN lN) lN.length S lP.length 0) => high_math hp h)
      have HCE := Lib.hid (fun (i k : Nat) (hi : i < lP.length) (hk : k < wideB lP) => high_cells hp hi hk)
      have HW := Lib.hid (fun ro rc gL (S : List Nat) w hx c d => implSizeWide_any ro gL rc S.length (namesB (transB lP)) (intsL S) w LQ SQ hx c d)
      have HST := Lib.hid (fun (i k : Nat) (S : List Nat) (hi : i < lP.length) (hk : k < wideB lP) (h : HiS lP (namesB (transB lP)) (dN lN) lN.length S i k) => h.step hτ h2 hi hk)
      have HNN := Lib.hid (fun a (ha : a < lN.length) => needB_at h3 ha)
      have HEV := Lib.hid (fun (i : Nat) (hi : i < lP.length) => (planP_of hpl).grid.even i hi)
      have hl6 : lP.length ≤ 6 := (planP_of hpl).grid.h6
      have hw6 : wideB lP ≤ 6 := (planP_of hpl).grid.w6
      have hl9 : lN.length ≤ 9 := by omega
      have hn1 : 1 ≤ lN.length := by omega
      have hp1 : 1 ≤ lP.length := (planP_of hpl).grid.h1
      rw [hp] at HI HS
      rw [hpl, orNone_yes rfl] at HT
      clear h1 h2 h3 h4 h5 h6 hτ hpo hpl hp
      generalize wideV lP lN 1 = v at *
      generalize namesB (transB lP) = q at *
      go_wp2_with fail
      refine (HI.out _ c_P c_N).mono ?_
      rintro e w4 ⟨rfl, hb⟩
      replace c_P := c_P.below hb
      replace c_N := c_N.below hb
      replace hB := below_step hB hB.size hb
      clear hb
      go_wp2_with fail
      refine (HS.out _ c_P c_N).mono ?_
      rintro e w5 ⟨rfl, hb⟩
      replace c_P := c_P.below hb
      replace c_N := c_N.below hb
      replace hB := below_step hB hB.size hb
      clear hb
      go_wp2_with fail
      refine (HT.out _ c_P).mono ?_
      rintro e w6 ⟨⟨roT, rcT, rfl, ow⟩, hb⟩
      replace c_P := c_P.below hb
      replace c_N := c_N.below hb
      replace hB := below_step hB hB.size hb
      clear hb
      have c_T := owns_cells ow
      clear ow
      have CP := Lib.hid c_P; have CN := Lib.hid c_N; have CT := Lib.hid c_T; have HB9 := Lib.hid hB
      clear c_P c_N c_T hB
      go_wp2_with (at_make; refine wpList_make_full _ rfl _ _ 24 rfl w6.heap.size 3 im (.int .i64 0) 1 Tryz.underlying24 hmi hmz hm1 .i64 .i64 _ _ lN.length rfl rfl rfl rfl ?d2 ?d3 (Nat.le_refl _) ?_; rotate_left 2; intro w20 ho2 hg2; have hb0 : Below w6.heap.size w6 w20 := below_of_grownBy hg2 (Nat.le_refl _) (by simp); have hz0 := held_zeros ho2)
      case d2 => rw [hm2]; omega
      case d3 => unfold maxLen; omega
      clear ho2 hg2 hmi hmz hm1 hm2
      have hS0 := HiS.start lP q (dN lN) lN.length
      obtain ⟨bp, op, rfl, kp0⟩ := CP.out.str 0 (by omega)
      clear kp0
      obtain ⟨bn, on, rfl, kn0⟩ := CN.out.int 0 (by omega)
      clear kn0
      go_wp2
      go_loopw [12] (fun vi wr => ∃ (i : Nat) (S : List Nat), i ≤ lP.length ∧ vi = .int .i64 i ∧ HeldB wr w6.heap.size 3 (setsV S) ∧ HiS lP q (dN lN) lN.length S i 0 ∧ Below w6.heap.size w6 wr) (fun vi _ => lP.length - (intOf vi).toNat)
      case atStart => exact ⟨0, _, Nat.zero_le _, rfl, hz0, hS0, hb0⟩
      case round =>
        clear hz0 hS0 hb0
        obtain ⟨i, S, hi, rfl, hz, hS, hq⟩ := hrel
        by_cases hlt : i < lP.length
        · have hlt' : decide ((i : Int) < (lP.length : Int)) = true := by rw [decide_eq_true_eq]; omega
          have hlt2 : (i : Int) < (lP.length : Int) := by omega
          go_wp2
          go_loopw [13] (fun vi wr => ∃ (k : Nat) (S : List Nat), k ≤ wideB lP ∧ vi = .int .i64 k ∧ HeldB wr w6.heap.size 3 (setsV S) ∧ HiS lP q (dN lN) lN.length S i k ∧ Below w6.heap.size w6 wr) (fun vi _ => wideB lP - (intOf vi).toNat)
          case atStart => exact ⟨0, _, Nat.zero_le _, rfl, hz, hS, hq⟩
          case round =>
            clear hz hS hq
            obtain ⟨k, S, hk, rfl, hz, hS, hq⟩ := hrel
            obtain ⟨bp2, op2, he, kp⟩ := (CP.out.below hq).str i (by omega)
            simp only [Option.some.injEq, Addr.mk.injEq, and_true] at he
            obtain ⟨rfl, rfl⟩ := he
            have hev := HEV.out i hlt
            by_cases hkw : k < wideB lP
            · obtain ⟨m1, m2, m3, m4, m5, m6, m7, m8, m9⟩ := HCE.out i k hlt hkw
              have hS2 := HST.out i k S hlt hkw hS
              have hSl := hS.len; clear hS
              obtain ⟨bt, ot, rfl, kt⟩ := (CT.out.below hq).str k m1
              obtain ⟨bn2, on2, he, kn⟩ := (CN.out.below hq).int (gridG lP i k) m4
              simp only [Option.some.injEq, Addr.mk.injEq, and_true] at he
              obtain ⟨rfl, rfl⟩ := he
              rw [(HNN.out _ m4).1] at kn
              have k1 : wr.cell? ⟨w6.heap.size, gridG q k i, none⟩ = some (.int .i64 ((S.getD (gridG q k i) 0 : Nat) : Int)) := (hz.cell _).trans (setsV_at (by omega))
              have f1 := hz.frozen (gridG q k i)
              have hz2 := (hz.set (gridG q k i) (.int .i64 ((dN lN (gridG lP i k) : Nat) : Int))).eq (setsV_put S _ _)
              have hq2 : Below w6.heap.size w6 (wr.setCell ⟨w6.heap.size, gridG q k i, none⟩ (.int .i64 ((dN lN (gridG lP i k) : Nat) : Int))) := hq.setCell (p := ⟨w6.heap.size, gridG q k i, none⟩) (by simp) _
              have HZ2 := Lib.hid hz2; have HQ2 := Lib.hid hq2; have HS2 := Lib.hid hS2; clear hz2 hq2 hS2 hz
              generalize hgs : S.getD (gridG q k i) 0 = s0 at *
              clear hgs
              generalize dN lN (gridG lP i k) = dd at *
              obtain ⟨st, hst⟩ : ∃ st, st = q.getD k ByteArray.empty := ⟨_, rfl⟩
              rw [← hst] at kt m2 m6 m7
              clear hst
              obtain ⟨sp, hsp⟩ : ∃ sp, sp = lP.getD i ByteArray.empty := ⟨_, rfl⟩
              rw [← hsp] at kp m3 m8 m9 hev
              clear hsp
              have hat := at_list st i m2
              have hat2 := at_list sp k m3
              generalize st.data.toList.getD i 0 = ct at *
              generalize sp.data.toList.getD k 0 = cp at *
              generalize gridG q k i = gq at *
              generalize gridG lP i k = gp at *
              have m1i : (k : Int) < (q.length : Int) := by omega
              have m2i : (i : Int) < (st.size : Int) := by omega
              have m3i : (k : Int) < (sp.size : Int) := by omega
              have m4i : (gp : Int) < (lN.length : Int) := by omega
              have m5i : (gq : Int) < (lN.length : Int) := by omega
              have hd : decide ((k : Int) < (sp.size : Int)) = true := by rw [decide_eq_true_eq]; omega
              have HQL := Lib.hid LQ; clear LQ
              have r1 : IntKind.i64.wrap ((ct.toNat : Nat) : Int) = ((ct.toNat : Nat) : Int) := IntWalk.i64_in _ (by omega)
              have r2 : IntKind.i64.wrap ((cp.toNat : Nat) : Int) = ((cp.toNat : Nat) : Int) := IntWalk.i64_in _ (by omega)
              clear hev
              go_wp2
              go_region
              all_goals
                go_wp2
                go_roundw
                case rel => exact ⟨k + 1, _, by omega, by go_num, HZ2.out.drew, HS2.out, HQ2.out.drew⟩
                case measure => simp [intOf]; omega
            · obtain rfl : k = wideB lP := by omega
              have hS2 := hS.row; clear hS
              obtain ⟨sp, hsp⟩ : ∃ sp, sp = lP.getD i ByteArray.empty := ⟨_, rfl⟩
              rw [← hsp] at kp hev
              clear hsp
              have hd : decide ((wideB lP : Int) < (sp.size : Int)) = false := by rw [decide_eq_false_iff_not]; omega
              have hd2 : ¬ wideB lP < sp.size := by omega
              have HEQ := Lib.hid hev; clear hev
              generalize wideB lP = WB at *
              go_wp2
              go_roundw
              case rel => exact ⟨i + 1, S, by omega, by go_num, hz, hS2, hq⟩
              case measure => simp [intOf]; omega
        · obtain rfl : i = lP.length := by omega
          have hlt' : decide ((lP.length : Int) < (lP.length : Int)) = false := by rw [decide_eq_false_iff_not]; omega
          obtain ⟨z1, z2⟩ := HM.out S hS
          have hSl := hS.len; clear hS
          have c_S := sets_cells hz
          have HWS := Lib.hid (fun ro rc w c d => HW.out ro rc (some ⟨w6.heap.size, 0, none⟩) S w (by rw [intsL_len]; omega) c d)
          rw [z1, z2, intsL_len, hSl] at HWS
          clear z1 z2 HM HW HST HCE HEV hSl hz
          have hB := below_step HB9.out HB9.out.size hq
          have c_T := CT.out.below hq
          clear hq
          go_wp2_with fail
          refine (HWS.out _ _ _ c_T c_S).mono ?_
          rintro e w7 ⟨rfl, hb⟩
          replace hB := below_step hB hB.size hb
          clear hb
          go_wp2
          go_ret
          exact ⟨rfl, hB⟩
  · have hdC : decide (1048576 < (lC.length : Int)) = true := by rw [decide_eq_true_eq]; omega
    go_enter Tryz.func4, Tryz.ntmps4
    go_wp2
    go_ret
    exact ⟨rfl, Below.refl _ _⟩

set_option maxRecDepth 100000 in
theorem fnHighNeeds_lifted (os : Os) (started : os.Started) (H : Type) (enc : TypeId × Value → H) :
    ReturnsInHanded {} Tryz.checked os 4 .any (Rows.fnHighNeedsSpec.pre6 enc Tryz.prog Tryz.f4 Rows.fnHighNeedsRow.domain false) (Rows.fnHighNeedsSpec.post enc Tryz.prog Tryz.f4 false true false false) := by
  refine returnsInHanded_of_change (C := Tryz.checked) Tryz.own started (by kernel_rfl) Tryz.func4
    (ChangeSpec.witness6 (enc := enc) (C := Tryz.checked) false ⟨#[], #[.slice none 0 0], []⟩ 8 (by kernel_rfl) (by kernel_rfl) (by kernel_rfl) (by kernel_rfl)) ?_
  intro W base args ds gs before hval0 hW _ _
  have hval : ∀ (j : Nat) t v, Tryz.f4.params[j]? = some t → args[j]? = some v → Value.okWide Tryz.prog W .any base t v := hval0
  have hW' := hW
  obtain ⟨p, q, hA0, hV, rfl, _, _⟩ := hW
  have hA : DataW.TrodAll enc Tryz.prog W 0 (fun _ => true) true Tryz.f4.params.toList args.toList ds p := hA0
  rw [Tryz.params4] at hA hval
  obtain ⟨v0, d0, rfl, rfl, h0⟩ := trodAll_one hA
  obtain ⟨rfl, rfl⟩ := trodVars_none hV
  obtain ⟨aC, eC, kC, rfl⟩ := okWide_slice Tryz.underlying22 (hval 0 22 v0 rfl rfl)
  clear hA0 hval0
  simp only [List.append_nil] at hW'
  have hlt0 : ∀ x ∈ p, x.block < W.heap.size := fun x hx => by simpa using hW'.lt x (by simp [hx])
  obtain ⟨lC, rfl, mC, zC, cC⟩ := open_bytes h0
  refine (fnHighNeeds_all aC kC lC W mC zC cC).mono fun e W' ⟨he, hb⟩ => ?_
  subst he
  refine ⟨_, rfl, _, _, _, [], _, [], hW', trodAll_mk1 (shut_bool Tryz.underlying4 _), trodAll_mk1 (Below.trod Tryz.laidOut (by kernel_rfl) (of_decide_eq_true (by kernel_rfl)) h0 hb hlt0), rfl, hb.frame _, fun h => by cases h⟩

theorem fnHighNeeds_holds : Rows.FnHighNeedsSaid :=
  OpenClaim.holds_of_wide 4 Tryz.f4 rfl rfl rfl rfl rfl rfl rfl ⟨rfl, rfl, rfl, rfl, rfl⟩ rfl rfl rfl rfl rfl (by kernel_rfl) Tryz.func4 (by kernel_rfl)
    (of_decide_eq_true (by kernel_rfl)) (by unfold Func.isWrapper; first | (rw [if_pos (by decide +kernel)]; kernel_rfl) | (rw [if_neg (by decide +kernel)]; exact ⟨rfl, rfl⟩))
    (fun os started H enc _ => fnHighNeeds_lifted os started H enc)

end Go.Proofs.YtobkbgbkkiiloaaGreat
