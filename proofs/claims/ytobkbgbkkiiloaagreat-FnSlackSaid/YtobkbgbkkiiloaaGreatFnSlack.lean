
/-
  For every slice of bytes the law FnSlack returns true, and the slice reads behind the call as it read before. No condition.
-/
import Derived.Test.YtobkbgbkkiiloaaGreatSizF
import Derived.Test.YtobkbgbkkiiloaaGreatDrawQ
import Derived.Test.YtobkbgbkkiiloaaGreatDraw
import Derived.Test.YtobkbgbkkiiloaaGreatLaws
namespace Go.Proofs.YtobkbgbkkiiloaaGreat
open Go.ChangeShapes Go.WideShapes Go.ChangeAt Go.RowKit

set_option maxRecDepth 100000 in
set_option maxHeartbeats 4000000 in
theorem fnSlack_all (aC : Option Addr) (kC : Nat) (lC : List UInt8) (w : World) (mC : lC.length ≤ maxLen) (zC : lC.length ≤ kC) (cC : CellsAt w aC (lC.map byteV)) :
    Calls Tryz.prog 6 #[.slice aC lC.length kC] w fun e w' => e = .returned (.bool true) ∧ Below w.heap.size w w' := by
  have mC2 := mC
  clear mC2
  by_cases dC : lC.length ≤ 1048576
  · have hdC : decide (1048576 < (lC.length : Int)) = false := by rw [decide_eq_false_iff_not]; omega
    go_enter Tryz.func6, Tryz.ntmps6
    go_wp2_with fail
    refine (drawSizeSlack_any _ _ _ _ zC dC cC).mono ?_
    rintro e w1 ⟨⟨roP, rcP, lP, roN, rcN, lN, hsm, hln, rfl, c_P, c_N⟩, hb⟩
    have hB := hb
    clear hb
    have LP : lP.length ≤ 1048576 := by have := hsm.2.1; omega
    have SP : ∀ s ∈ lP, s.size ≤ 1048576 := fun s h => by have := hsm.2.2 s h; omega
    have LN : lN.length ≤ 1048576 := by omega
    cases hp : sizedB lP lN
    · -- no needs
      have HI := Lib.hid (fun w c d => implSizeSlack_any roP roN rcP rcN lP lN w LP SP LN c d)
      have HS := Lib.hid (fun w c d => specSizeSlack_any roP roN rcP rcN lP lN w LP SP LN c d)
      rw [hp, show slackV lP lN = [] by unfold slackV; rw [hp]; rfl, show intsL [] = [] from rfl] at HI HS
      clear hp
      go_wp2_with fail
      refine (HI.out _ c_P c_N).mono ?_
      rintro e w2 ⟨⟨roO, rcO, rfl, ow⟩, hb⟩
      replace c_P := c_P.below hb
      replace c_N := c_N.below hb
      replace hB := below_step hB hB.size hb
      clear hb
      have c_O := owns_cells ow
      clear ow
      go_wp2_with fail
      refine (HS.out _ c_P c_N).mono ?_
      rintro e w3 ⟨⟨roW, rcW, rfl, ow⟩, hb⟩
      replace c_P := c_P.below hb
      replace c_N := c_N.below hb
      replace c_O := c_O.below hb
      replace hB := below_step hB hB.size hb
      clear hb
      have c_W := owns_cells ow
      clear ow
      go_wp2_with fail
      refine (sameInts_any _ _ _ _ _ _ [] [] _ rfl rfl (by exact Nat.zero_le _) c_O c_W).mono ?_
      rw [eqI_self]
      rintro e w4 ⟨rfl, hq⟩
      have hb := quiet_below hq
      clear hq
      replace c_P := c_P.below hb
      replace c_N := c_N.below hb
      replace c_O := c_O.below hb
      replace c_W := c_W.below hb
      replace hB := below_step hB hB.size hb
      clear hb
      go_wp2_with fail
      refine (sameInts_any _ _ _ _ _ _ [] [] _ rfl rfl (by exact Nat.zero_le _) c_O c_W).mono ?_
      rw [eqI_self]
      rintro e w5 ⟨rfl, hq⟩
      have hb := quiet_below hq
      clear hq
      replace c_P := c_P.below hb
      replace c_N := c_N.below hb
      replace c_O := c_O.below hb
      replace c_W := c_W.below hb
      replace hB := below_step hB hB.size hb
      clear hb
      go_wp2
      go_ret
      exact ⟨rfl, hB⟩
    · -- needs
      have HI := Lib.hid (fun w c d => implSizeSlack_any roP roN rcP rcN lP lN w LP SP LN c d)
      have HS := Lib.hid (fun w c d => specSizeSlack_any roP roN rcP rcN lP lN w LP SP LN c d)
      have HW := Lib.hid (fun w c d => implSizeWide_any roP roN rcP rcN lP lN w LP SP LN c d)
      have HP := Lib.hid (fun w c d => implSizePlaces_any roP roN rcP rcN lP lN w LP SP LN c d)
      obtain ⟨s1, s2, s3, s4, s5, s6⟩ := slack_math hp
      obtain ⟨k1, k2, k3⟩ := sizedB_yes hp
      have hv := wideV_le lP lN (way := 0) (by omega)
      rw [hp] at HI HS HW HP
      have HNN := Lib.hid (fun a (ha : a < lN.length) => needB_at k3 ha)
      obtain ⟨O, hO⟩ : ∃ O, O = slackV lP lN := ⟨_, rfl⟩
      rw [← hO] at s1 s5 s6 HI HS
      obtain ⟨Q, hQ⟩ : ∃ Q, Q = placesV lP lN 0 := ⟨_, rfl⟩
      rw [← hQ] at s2 s5 HP
      have HS1 := Lib.hid s1; have HS2 := Lib.hid s2; have HS5 := Lib.hid s5; have HS6 := Lib.hid s6; clear s1 s2 s5 s6 hO hQ k1 k2 k3 hp
      generalize wideV lP lN 0 = v at *
      obtain ⟨L, hL⟩ : ∃ L, L = intsL O := ⟨_, rfl⟩
      rw [← hL] at HI HS
      obtain ⟨M, hM⟩ : ∃ M, M = intsL Q := ⟨_, rfl⟩
      rw [← hM] at HP
      have HLL := Lib.hid (show L.length = lN.length by rw [hL, intsL_len]; exact HS1.out)
      have HML := Lib.hid (show M.length = lN.length by rw [hM, intsL_len]; exact HS2.out)
      have HLA := Lib.hid (show ∀ i, i < lN.length → L.getD i 0 = ((O.getD i 0 : Nat) : Int) from fun i hi => by rw [hL]; exact ints_at O (by have := HS1.out; omega))
      have HMA := Lib.hid (show ∀ i, i < lN.length → M.getD i 0 = ((Q.getD i 0 : Nat) : Int) from fun i hi => by rw [hM]; exact ints_at Q (by have := HS2.out; omega))
      clear hL hM
      go_wp2_with fail
      refine (HI.out _ c_P c_N).mono ?_
      rintro e w6 ⟨⟨roO, rcO, rfl, ow⟩, hb⟩
      replace c_P := c_P.below hb
      replace c_N := c_N.below hb
      replace hB := below_step hB hB.size hb
      clear hb
      have c_O := owns_cells ow
      clear ow
      go_wp2_with fail
      refine (HS.out _ c_P c_N).mono ?_
      rintro e w7 ⟨⟨roW, rcW, rfl, ow⟩, hb⟩
      replace c_P := c_P.below hb
      replace c_N := c_N.below hb
      replace c_O := c_O.below hb
      replace hB := below_step hB hB.size hb
      clear hb
      have c_W := owns_cells ow
      clear ow
      go_wp2_with fail
      refine (sameInts_any _ _ _ _ _ _ L L _ rfl rfl (by have := HLL.out; unfold maxLen; omega) c_O c_W).mono ?_
      rw [eqI_self]
      rintro e w8 ⟨rfl, hq⟩
      have hb := quiet_below hq
      clear hq
      replace c_P := c_P.below hb
      replace c_N := c_N.below hb
      replace c_O := c_O.below hb
      replace c_W := c_W.below hb
      replace hB := below_step hB hB.size hb
      clear hb
      go_wp2_with fail
      refine (HW.out _ c_P c_N).mono ?_
      rintro e w9 ⟨rfl, hb⟩
      replace c_P := c_P.below hb
      replace c_N := c_N.below hb
      replace c_O := c_O.below hb
      replace c_W := c_W.below hb
      replace hB := below_step hB hB.size hb
      clear hb
      go_wp2_with fail
      refine (HP.out _ c_P c_N).mono ?_
      rintro e w10 ⟨⟨roQ, rcQ, rfl, ow⟩, hb⟩
      replace c_P := c_P.below hb
      replace c_N := c_N.below hb
      replace c_O := c_O.below hb
      replace c_W := c_W.below hb
      replace hB := below_step hB hB.size hb
      clear hb
      have c_Q := owns_cells ow
      clear ow
      have CQ := Lib.hid c_Q; have CN := Lib.hid c_N; have CO := Lib.hid c_O; have HB9 := Lib.hid hB
      clear c_P c_N c_O c_W c_Q hB
      go_wp2
      go_loopw [13, 14] (fun vs vi wr => ∃ i : Nat, i ≤ lN.length ∧ vi = .int .i64 i ∧ vs = .int .i64 ((totF (dN lN) (fun a => decide (O.getD a 0 = 0)) i : Nat) : Int) ∧ Hid (totF (dN lN) (fun a => decide (O.getD a 0 = 0)) i ≤ 9 * i) ∧ Below w10.heap.size w10 wr) (fun _ vi _ => lN.length - (intOf vi).toNat)
      case atStart => exact ⟨0, Nat.zero_le _, rfl, rfl, Lib.hid (Nat.le_refl _), Below.refl _ _⟩
      case round =>
        obtain ⟨i, hi, rfl, rfl, hs, hq⟩ := hrel
        by_cases hlt : i < lN.length
        · have hlt' : decide ((i : Int) < (L.length : Int)) = true := by rw [decide_eq_true_eq]; have := HLL.out; omega
          have hi2 : (i : Int) < (L.length : Int) := by have := HLL.out; omega
          have hi3 : (i : Int) < (lN.length : Int) := by omega
          have hi4 : (i : Int) < (M.length : Int) := by have := HML.out; omega
          obtain ⟨n1, n2, n3⟩ := HNN.out i hlt
          have h5 := HS5.out i hlt
          obtain ⟨bo, oo, rfl, ko⟩ := (CO.out.below hq).int i (by have := HLL.out; omega)
          obtain ⟨bn, on, rfl, kn⟩ := (CN.out.below hq).int i (by omega)
          obtain ⟨bq, oq, rfl, kq⟩ := (CQ.out.below hq).int i (by have := HML.out; omega)
          rw [HLA.out i hlt] at ko
          rw [HMA.out i hlt] at kq
          rw [n1] at kn
          clear n1
          have hT : totF (dN lN) (fun a => decide (O.getD a 0 = 0)) (i + 1) = totF (dN lN) (fun a => decide (O.getD a 0 = 0)) i + (if decide (O.getD i 0 = 0) = true then dN lN i else 0) := rfl
          have hs2 := hs.out; clear hs
          have HT := Lib.hid hT; clear hT
          generalize totF (dN lN) (fun a => decide (O.getD a 0 = 0)) i = S at *
          generalize O.getD i 0 = x at *
          generalize Q.getD i 0 = z at *
          generalize dN lN i = d at *
          have hi9 : i ≤ 8 := by omega
          have hz81 : z ≤ 81 := by omega
          have hx81 : x ≤ 81 := by omega
          have hS81 : S ≤ 72 := by omega
          have sb : S + d ≤ 9 * (i + 1) := by omega
          have sc : S ≤ 9 * (i + 1) := by omega
          have HSB := Lib.hid sb; have HSC := Lib.hid sc; clear sb sc hs2
          obtain ⟨e1, w1, w2, e2, e3⟩ := slack_facts h5 hv
          clear w1 w2
          by_cases hx : x = 0
          · subst hx
            have e6 : (((0 : Nat) : Int) == 0) = true := rfl
            go_wp2
            go_quiet (fail)
            go_wp2
            go_roundw
            case rel => exact ⟨i + 1, by omega, by go_num, by rw [HT.out]; rw [if_pos (by decide)]; rfl, Lib.hid (by rw [HT.out]; split <;> first | exact HSB.out | exact HSC.out), by first | exact hq | exact below_step hq hq.size (below_drewN _ _ _)⟩
            case measure => simp [intOf]; omega
          · have e6 : ((x : Int) == 0) = false := by rw [beq_eq_false_iff_ne]; omega
            have e7 : ¬ (x : Int) = 0 := by omega
            go_wp2
            go_quiet (fail)
            go_wp2
            go_roundw
            case rel => exact ⟨i + 1, by omega, by go_num, by rw [HT.out]; rw [if_neg (by rw [decide_eq_true_eq]; exact hx), Nat.add_zero], Lib.hid (by rw [HT.out]; split <;> first | exact HSB.out | exact HSC.out), by first | exact hq | exact below_step hq hq.size (below_drewN _ _ _)⟩
            case measure => simp [intOf]; omega
        · obtain rfl : i = lN.length := by omega
          have hlt' : decide ((lN.length : Int) < (L.length : Int)) = false := by rw [decide_eq_false_iff_not]; have := HLL.out; omega
          have hlt2 : ¬ lN.length < L.length := by have := HLL.out; omega
          have hB := below_step HB9.out HB9.out.size hq
          have h6 := HS6.out
          generalize totF (dN lN) (fun a => decide (O.getD a 0 = 0)) lN.length = S at *
          have d1 : decide ((v : Int) ≤ (S : Int)) = true := by rw [decide_eq_true_eq]; omega
          have d2 : decide (v ≤ S) = true := by rw [decide_eq_true_eq]; omega
          go_wp2
          go_ret
          exact ⟨rfl, hB⟩
  · have hdC : decide (1048576 < (lC.length : Int)) = true := by rw [decide_eq_true_eq]; omega
    go_enter Tryz.func6, Tryz.ntmps6
    go_wp2
    go_ret
    exact ⟨rfl, Below.refl _ _⟩

set_option maxRecDepth 100000 in
theorem fnSlack_lifted (os : Os) (started : os.Started) (H : Type) (enc : TypeId × Value → H) :
    ReturnsInHanded {} Tryz.checked os 6 .any (Rows.fnSlackSpec.pre6 enc Tryz.prog Tryz.f6 Rows.fnSlackRow.domain false) (Rows.fnSlackSpec.post enc Tryz.prog Tryz.f6 false true false false) := by
  refine returnsInHanded_of_change (C := Tryz.checked) Tryz.own started (by kernel_rfl) Tryz.func6
    (ChangeSpec.witness6 (enc := enc) (C := Tryz.checked) false ⟨#[], #[.slice none 0 0], []⟩ 8 (by kernel_rfl) (by kernel_rfl) (by kernel_rfl) (by kernel_rfl)) ?_
  intro W base args ds gs before hval0 hW _ _
  have hval : ∀ (j : Nat) t v, Tryz.f6.params[j]? = some t → args[j]? = some v → Value.okWide Tryz.prog W .any base t v := hval0
  have hW' := hW
  obtain ⟨p, q, hA0, hV, rfl, _, _⟩ := hW
  have hA : DataW.TrodAll enc Tryz.prog W 0 (fun _ => true) true Tryz.f6.params.toList args.toList ds p := hA0
  rw [Tryz.params6] at hA hval
  obtain ⟨v0, d0, rfl, rfl, h0⟩ := trodAll_one hA
  obtain ⟨rfl, rfl⟩ := trodVars_none hV
  obtain ⟨aC, eC, kC, rfl⟩ := okWide_slice Tryz.underlying22 (hval 0 22 v0 rfl rfl)
  clear hA0 hval0
  simp only [List.append_nil] at hW'
  have hlt0 : ∀ x ∈ p, x.block < W.heap.size := fun x hx => by simpa using hW'.lt x (by simp [hx])
  obtain ⟨lC, rfl, mC, zC, cC⟩ := open_bytes h0
  refine (fnSlack_all aC kC lC W mC zC cC).mono fun e W' ⟨he, hb⟩ => ?_
  subst he
  refine ⟨_, rfl, _, _, _, [], _, [], hW', trodAll_mk1 (shut_bool Tryz.underlying4 _), trodAll_mk1 (Below.trod Tryz.laidOut (by kernel_rfl) (of_decide_eq_true (by kernel_rfl)) h0 hb hlt0), rfl, hb.frame _, fun h => by cases h⟩

theorem fnSlack_holds : Rows.FnSlackSaid :=
  OpenClaim.holds_of_wide 6 Tryz.f6 rfl rfl rfl rfl rfl rfl rfl ⟨rfl, rfl, rfl, rfl, rfl⟩ rfl rfl rfl rfl rfl (by kernel_rfl) Tryz.func6 (by kernel_rfl)
    (of_decide_eq_true (by kernel_rfl)) (by unfold Func.isWrapper; first | (rw [if_pos (by decide +kernel)]; kernel_rfl) | (rw [if_neg (by decide +kernel)]; exact ⟨rfl, rfl⟩))
    (fun os started H enc _ => fnSlack_lifted os started H enc)

end Go.Proofs.YtobkbgbkkiiloaaGreat
