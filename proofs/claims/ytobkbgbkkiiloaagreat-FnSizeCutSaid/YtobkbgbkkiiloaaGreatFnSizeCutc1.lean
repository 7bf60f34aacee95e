/-
  For every slice of bytes the law FnSizeCut returns true, and the slice reads behind the call as it read before. No condition.
-/
import Derived.Test.YtobkbgbkkiiloaaGreatSizTc1
import Derived.Test.YtobkbgbkkiiloaaGreatDrawQc1
import Derived.Test.YtobkbgbkkiiloaaGreatDrawc1
import Derived.Test.YtobkbgbkkiiloaaGreatLawsc1

namespace Go.Proofs.YtobkbgbkkiiloaaGreat
open Go.ChangeShapes Go.WideShapes Go.ChangeAt Go.RowKit

set_option maxRecDepth 100000 in
set_option maxHeartbeats 4000000 in
theorem fnSizeCut_all (aC : Option Addr) (kC : Nat) (lC : List UInt8) (w : World) (mC : lC.length ≤ maxLen) (zC : lC.length ≤ kC) (cC : CellsAt w aC (lC.map byteV)) :
    Calls Tryz.prog 7 #[.slice aC lC.length kC] w fun e w' => e = .returned (.bool true) ∧ Below w.heap.size w w' := by
  have mC2 := mC
  clear mC2
  by_cases dC : lC.length ≤ 1048576
  · have hdC : decide (1048576 < (lC.length : Int)) = false := by rw [decide_eq_false_iff_not]; omega
    go_enter Tryz.func7, Tryz.ntmps7
    go_wp2_with fail
    refine (drawSizeCut_any _ _ _ _ zC dC cC).mono ?_
    rintro e w1 ⟨⟨roP, rcP, lP, roN, rcN, lN, hsm, hln, rfl, c_P, c_N⟩, hb⟩
    have hB := hb
    clear hb
    have LP : lP.length ≤ 1048576 := by have := hsm.2.1; omega
    have SP : ∀ s ∈ lP, s.size ≤ 1048576 := fun s h => by have := hsm.2.2 s h; omega
    have LN : lN.length ≤ 1048576 := by omega
    cases hp : (sizedB lP lN && (treeP lP).isSome)
    · -- no such plan
      have HI := Lib.hid (fun w c d => implSizeCut_any roP roN rcP rcN lP lN w LP SP LN c d)
      have HS := Lib.hid (fun w c d => specSizeCut_any roP roN rcP rcN lP lN w LP SP LN c d)
      rw [hp] at HI HS
      generalize cutV lP lN = v at *
      clear hp
      go_wp2_with fail
      refine (HI.out _ c_P c_N).mono ?_
      rintro e w2 ⟨rfl, hb⟩
      replace c_P := c_P.below hb
      replace c_N := c_N.below hb
      replace hB := below_step hB hB.size hb
      clear hb
      go_wp2_with fail
      refine (HS.out _ c_P c_N).mono ?_
      rintro e w3 ⟨rfl, hb⟩
      replace c_P := c_P.below hb
      replace c_N := c_N.below hb
      replace hB := below_step hB hB.size hb
      clear hb
      go_wp2
      go_ret
      exact ⟨rfl, hB⟩
    · -- a plan that is cuttable
      have HI := Lib.hid (fun w c d => implSizeCut_any roP roN rcP rcN lP lN w LP SP LN c d)
      have HS := Lib.hid (fun w c d => specSizeCut_any roP roN rcP rcN lP lN w LP SP LN c d)
      have HW := Lib.hid (fun w c d => implSizeWide_any roP roN rcP rcN lP lN w LP SP LN c d)
      obtain ⟨h1, h2⟩ := (Bool.and_eq_true _ _).mp hp
      rw [hp, sizeCut_math h1 h2] at HI HS
      rw [h1] at HW
      generalize wideV lP lN 0 = v at *
      clear hp h1 h2
      go_wp2_with fail
      refine (HI.out _ c_P c_N).mono ?_
      rintro e w4 ⟨rfl, hb⟩
      replace c_P := c_P.below hb
      replace c_N := c_N.below hb
      replace hB := below_step hB hB.size hb
      clear hb
      go_wp2_with fail
      refine (HS.out _ c_P c_N).mono ?_
      rintro e w5 ⟨rfl, hb⟩
      replace c_P := c_P.below hb
      replace c_N := c_N.below hb
      replace hB := below_step hB hB.size hb
      clear hb
      go_wp2_with fail
      refine (HW.out _ c_P c_N).mono ?_
      rintro e w6 ⟨rfl, hb⟩
      replace c_P := c_P.below hb
      replace c_N := c_N.below hb
      replace hB := below_step hB hB.size hb
      clear hb
      go_wp2
      go_ret
      exact ⟨rfl, hB⟩
  · have hdC : decide (1048576 < (lC.length : Int)) = true := by rw [decide_eq_true_eq]; omega
    go_enter Tryz.func7, Tryz.ntmps7
    go_wp2
    go_ret
    exact ⟨rfl, Below.refl _ _⟩

set_option maxRecDepth 100000 in
theorem fnSizeCut_lifted (os : Os) (started : os.Started) (H : Type) (enc : TypeId × Value → H) :
    ReturnsInHanded {} Tryz.checked os 7 .any (Rows.fnSizeCutSpec.pre6 enc Tryz.prog Tryz.f7 Rows.fnSizeCutRow.domain false) (Rows.fnSizeCutSpec.post enc Tryz.prog Tryz.f7 false true false false) := by
  refine returnsInHanded_of_change (C := Tryz.checked) Tryz.own started (by kernel_rfl) Tryz.func7
    (ChangeSpec.witness6 (enc := enc) (C := Tryz.checked) false ⟨#[], #[.slice none 0 0], []⟩ 8 (by kernel_rfl) (by kernel_rfl) (by kernel_rfl) (by kernel_rfl)) ?_
  intro W base args ds gs before hval0 hW _ _
  have hval : ∀ (j : Nat) t v, Tryz.f7.params[j]? = some t → args[j]? = some v → Value.okWide Tryz.prog W .any base t v := hval0
  have hW' := hW
  obtain ⟨p, q, hA0, hV, rfl, _, _⟩ := hW
  have hA : DataW.TrodAll enc Tryz.prog W 0 (fun _ => true) true Tryz.f7.params.toList args.toList ds p := hA0
  rw [Tryz.params7] at hA hval
  obtain ⟨v0, d0, rfl, rfl, h0⟩ := trodAll_one hA
  obtain ⟨rfl, rfl⟩ := trodVars_none hV
  obtain ⟨aC, eC, kC, rfl⟩ := okWide_slice Tryz.underlying22 (hval 0 22 v0 rfl rfl)
  clear hA0 hval0
  simp only [List.append_nil] at hW'
  have hlt0 : ∀ x ∈ p, x.block < W.heap.size := fun x hx => by simpa using hW'.lt x (by simp [hx])
  obtain ⟨lC, rfl, mC, zC, cC⟩ := open_bytes h0
  refine (fnSizeCut_all aC kC lC W mC zC cC).mono fun e W' ⟨he, hb⟩ => ?_
  subst he
  refine ⟨_, rfl, _, _, _, [], _, [], hW', trodAll_mk1 (shut_bool Tryz.underlying4 _), trodAll_mk1 (Below.trod Tryz.laidOut (by kernel_rfl) (of_decide_eq_true (by kernel_rfl)) h0 hb hlt0), rfl, hb.frame _, fun h => by cases h⟩

theorem fnSizeCut_holds : Rows.FnSizeCutSaid :=
  OpenClaim.holds_of_wide 7 Tryz.f7 rfl rfl rfl rfl rfl rfl rfl ⟨rfl, rfl, rfl, rfl, rfl⟩ rfl rfl rfl rfl rfl (by kernel_rfl) Tryz.func7 (by kernel_rfl)
    (of_decide_eq_true (by kernel_rfl)) (by unfold Func.isWrapper; first | (rw [if_pos (by decide +kernel)]; kernel_rfl) | (rw [if_neg (by decide +kernel)]; exact ⟨rfl, rfl⟩))
    (fun os started H enc _ => fnSizeCut_lifted os started H enc)

end Go.Proofs.YtobkbgbkkiiloaaGreat
