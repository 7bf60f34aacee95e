
/-
  For every slice of bytes the law FnCutDeep returns true, and the slice reads behind the call as it read before. No condition.
-/
import Derived.Test.YtcndlfkmmgdpaaaGuiP
import Derived.Test.YtcndlfkmmgdpaaaGuiW
import Derived.Test.YtcndlfkmmgdpaaaRoomsA
import Derived.Test.YtcndlfkmmgdpaaaDrawW
import Derived.Test.YtcndlfkmmgdpaaaDraw
import Derived.Test.YtcndlfkmmgdpaaaLaws
namespace Go.Proofs.Ytcndlfkmmgdpaaa
open Go.ChangeShapes Go.WideShapes Go.ChangeAt Go.RowKit

set_option maxRecDepth 100000 in
set_option maxHeartbeats 4000000 in
theorem fnCutDeep_all (aC : Option Addr) (kC : Nat) (lC : List UInt8) (w : World) (mC : lC.length ≤ maxLen) (zC : lC.length ≤ kC) (cC : CellsAt w aC (lC.map byteV)) :
    Calls Try.prog 5 #[.slice aC lC.length kC] w fun e w' => e = .returned (.bool true) ∧ Below w.heap.size w w' := by
  have mC2 := mC
  clear mC2
  by_cases dC : lC.length ≤ 1048576
  · have hdC : decide (1048576 < (lC.length : Int)) = false := by rw [decide_eq_false_iff_not]; omega
    go_enter Try.func5, Try.ntmps5
    go_wp2_with fail
    refine (drawCutDeep_any _ _ _ _ zC dC cC).mono ?_
    rintro e w1 ⟨⟨roP, rcP, lP, hsm, rfl, c_P⟩, hb⟩
    have hB := hb
    clear hb
    have LP : lP.length ≤ 1048576 := by have := hsm.2.1; omega
    have SP : ∀ s ∈ lP, s.size ≤ 1048576 := fun s h => by have := hsm.2.2 s h; omega
    have HI := Lib.hid (fun w c => implCutDeep_any roP rcP lP w LP SP c)
    have HS := Lib.hid (fun w c => specCutDeep_any roP rcP lP w LP SP c)
    cases hT : (treeP lP).isSome
    · -- not cuttable
      rw [hT] at HI HS
      generalize deepP lP = d at *
      go_wp2_with fail
      refine (HI.out _ c_P).mono ?_
      rintro e w2 ⟨rfl, hb⟩
      replace c_P := c_P.below hb
      replace hB := below_step hB hB.size hb
      clear hb
      go_wp2_with fail
      refine (HS.out _ c_P).mono ?_
      rintro e w3 ⟨rfl, hb⟩
      replace c_P := c_P.below hb
      replace hB := below_step hB hB.size hb
      clear hb
      go_wp2
      go_ret
      exact ⟨rfl, hB⟩
    · -- cuttable
      have HR := Lib.hid (fun w c => implPlanRooms_any roP rcP lP w LP SP c)
      have HT := Lib.hid (fun w c => implTurn_any roP rcP lP w LP SP c)
      obtain ⟨hP, hr9, hd1, hd2⟩ := deep_math hT
      obtain ⟨hq1, hq2, -⟩ := cut_turn hT
      have LT := plan_small (is_turn hP).plan
      have HX := Lib.hid (fun ro rc w c => implCutDeep_any ro rc (namesB (turnB lP)) w LT.1 LT.2 c)
      rw [hq1, hq2] at HX
      rw [hT] at HI HS
      rw [hP, roomsOr_yes hP, (planP_of hP).rooms] at HR
      rw [hP, orNone_yes rfl] at HT
      clear LT hq1 hq2 hT hP hsm LP SP
      generalize namesB (turnB lP) = T at *
      generalize deepP lP = d at *
      generalize gridR lP = R at *
      go_wp2_with fail
      refine (HI.out _ c_P).mono ?_
      rintro e w4 ⟨rfl, hb⟩
      replace c_P := c_P.below hb
      replace hB := below_step hB hB.size hb
      clear hb
      go_wp2_with fail
      refine (HS.out _ c_P).mono ?_
      rintro e w5 ⟨rfl, hb⟩
      replace c_P := c_P.below hb
      replace hB := below_step hB hB.size hb
      clear hb
      go_wp2_with fail
      refine (HR.out _ c_P).mono ?_
      rintro e w6 ⟨rfl, hb⟩
      replace c_P := c_P.below hb
      replace hB := below_step hB hB.size hb
      clear hb
      go_wp2_with fail
      refine (HT.out _ c_P).mono ?_
      rintro e w7 ⟨⟨roT, rcT, rfl, ow⟩, hb⟩
      replace c_P := c_P.below hb
      replace hB := below_step hB hB.size hb
      clear hb
      have c_T := owns_cells ow
      clear ow
      go_wp2_with fail
      refine (HX.out _ _ _ c_T).mono ?_
      rintro e w8 ⟨rfl, hb⟩
      replace c_P := c_P.below hb
      replace c_T := c_T.below hb
      replace hB := below_step hB hB.size hb
      clear hb
      have g1 : decide ((d : Int) < (R : Int)) = true := by rw [decide_eq_true_eq]; omega
      have hd8 : d ≤ 8 := by omega
      have hc : d = 0 ∨ d = 1 ∨ d = 2 ∨ d = 3 ∨ d = 4 ∨ d = 5 ∨ d = 6 ∨ d = 7 ∨ d = 8 := by omega
      clear HI HS HR HT HX
      rcases hc with rfl | rfl | rfl | rfl | rfl | rfl | rfl | rfl | rfl
      all_goals
        simp only [Nat.reducePow] at hd2
        have hfin : ∀ k : Int, (R : Int) ≤ k → Ending.returned (Value.bool (decide ((R : Int) ≤ k))) = Ending.returned (.bool true) := fun k h => by rw [decide_eq_true h]
        have HF := Lib.hid hfin
        clear hfin
        go_wp2
        go_ret
        exact ⟨HF.out _ (by omega), hB⟩
  · have hdC : decide (1048576 < (lC.length : Int)) = true := by rw [decide_eq_true_eq]; omega
    go_enter Try.func5, Try.ntmps5
    go_wp2
    go_ret
    exact ⟨rfl, Below.refl _ _⟩

set_option maxRecDepth 100000 in
theorem fnCutDeep_lifted (os : Os) (started : os.Started) (H : Type) (enc : TypeId × Value → H) :
    ReturnsInHanded {} Try.checked os 5 .any (Rows.fnCutDeepSpec.pre6 enc Try.prog Try.f5 Rows.fnCutDeepRow.domain false) (Rows.fnCutDeepSpec.post enc Try.prog Try.f5 false true false false) := by
  refine returnsInHanded_of_change (C := Try.checked) Try.own started (by kernel_rfl) Try.func5
    (ChangeSpec.witness6 (enc := enc) (C := Try.checked) false ⟨#[], #[.slice none 0 0], []⟩ 8 (by kernel_rfl) (by kernel_rfl) (by kernel_rfl) (by kernel_rfl)) ?_
  intro W base args ds gs before hval0 hW _ _
  have hval : ∀ (j : Nat) t v, Try.f5.params[j]? = some t → args[j]? = some v → Value.okWide Try.prog W .any base t v := hval0
  have hW' := hW
  obtain ⟨p, q, hA0, hV, rfl, _, _⟩ := hW
  have hA : DataW.TrodAll enc Try.prog W 0 (fun _ => true) true Try.f5.params.toList args.toList ds p := hA0
  rw [Try.params5] at hA hval
  obtain ⟨v0, d0, rfl, rfl, h0⟩ := trodAll_one hA
  obtain ⟨rfl, rfl⟩ := trodVars_none hV
  obtain ⟨aC, eC, kC, rfl⟩ := okWide_slice Try.underlying22 (hval 0 22 v0 rfl rfl)
  clear hA0 hval0
  simp only [List.append_nil] at hW'
  have hlt0 : ∀ x ∈ p, x.block < W.heap.size := fun x hx => by simpa using hW'.lt x (by simp [hx])
  obtain ⟨lC, rfl, mC, zC, cC⟩ := open_bytes h0
  refine (fnCutDeep_all aC kC lC W mC zC cC).mono fun e W' ⟨he, hb⟩ => ?_
  subst he
  refine ⟨_, rfl, _, _, _, [], _, [], hW', trodAll_mk1 (shut_bool Try.underlying4 _), trodAll_mk1 (Below.trod Try.laidOut (by kernel_rfl) (of_decide_eq_true (by kernel_rfl)) h0 hb hlt0), rfl, hb.frame _, fun h => by cases h⟩

theorem fnCutDeep_holds : Rows.FnCutDeepSaid :=
  OpenClaim.holds_of_wide 5 Try.f5 rfl rfl rfl rfl rfl rfl rfl ⟨rfl, rfl, rfl, rfl, rfl⟩ rfl rfl rfl rfl rfl (by kernel_rfl) Try.func5 (by kernel_rfl)
    (of_decide_eq_true (by kernel_rfl)) (by unfold Func.isWrapper; first | (rw [if_pos (by decide +kernel)]; kernel_rfl) | (rw [if_neg (by decide +kernel)]; exact ⟨rfl, rfl⟩))
    (fun os started H enc _ => fnCutDeep_lifted os started H enc)

end Go.Proofs.Ytcndlfkmmgdpaaa
