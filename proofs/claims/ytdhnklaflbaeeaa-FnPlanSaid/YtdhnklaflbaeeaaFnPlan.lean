
/-
  For every slice of bytes the law FnPlan returns true, and the slice reads behind the call as it read before. No condition.
-/
import Derived.Test.YtdhnklaflbaeeaaIs
import Derived.Test.YtdhnklaflbaeeaaImplI
import Derived.Test.YtdhnklaflbaeeaaDraw
import Derived.Test.YtdhnklaflbaeeaaLaws
namespace Go.Proofs.Ytdhnklaflbaeeaa
open Go.ChangeShapes Go.WideShapes Go.ChangeAt Go.RowKit

set_option maxRecDepth 100000 in
set_option maxHeartbeats 4000000 in
theorem fnPlan_all (aC : Option Addr) (kC : Nat) (lC : List UInt8) (w : World) (mC : lC.length ≤ maxLen) (zC : lC.length ≤ kC) (cC : CellsAt w aC (lC.map byteV)) :
    Calls Try.prog 3 #[.slice aC lC.length kC] w fun e w' => e = .returned (.bool true) ∧ Below w.heap.size w w' := by
  have mC2 := mC
  clear mC2
  by_cases dC : lC.length ≤ 1048576
  · have hdC : decide (1048576 < (lC.length : Int)) = false := by rw [decide_eq_false_iff_not]; omega
    go_enter Try.func3, Try.ntmps3
    go_wp2_with fail
    refine (drawPlanIn_any _ _ _ _ zC dC cC).mono ?_
    rintro e w1 ⟨⟨roP, rcP, lP, hsm, rfl, c_P⟩, hb⟩
    have hB := hb
    clear hb
    have LP : lP.length ≤ 1048576 := by have := hsm.2.1; omega
    have SP : ∀ s ∈ lP, s.size ≤ 1048576 := fun s h => by have := hsm.2.2 s h; omega
    cases hp : planB lP
    · -- no plan
      go_wp2_with fail
      refine (implPlanIn_any _ _ _ _ LP SP c_P).mono ?_
      rw [readOk_eq, hp]
      rintro e w2 ⟨rfl, hb⟩
      replace c_P := c_P.below hb
      replace hB := below_step hB hB.size hb
      clear hb
      go_wp2_with fail
      refine (specPlanIn_any _ _ _ _ LP SP c_P).mono ?_
      rw [hp]
      rintro e w3 ⟨rfl, hb⟩
      replace c_P := c_P.below hb
      replace hB := below_step hB hB.size hb
      clear hb
      go_wp2
      go_ret
      exact ⟨rfl, hB⟩
    · -- a plan
      have HN := Lib.hid (name_self hp)
      have HT := Lib.hid (is_turn hp).plan
      have HF := Lib.hid (is_flip hp).plan
      have HNA := Lib.hid (fun w c => implPlanName_any roP rcP lP w LP SP c)
      have HTU := Lib.hid (fun w c => implTurn_any roP rcP lP w LP SP c)
      have HFL := Lib.hid (fun w c => implFlip_any roP rcP lP w LP SP c)
      rw [HN.out.2, HN.out.1] at HNA
      rw [hp] at HTU HFL
      rw [orNone_yes rfl] at HNA HTU HFL
      have LT : (namesB (turnB lP)).length ≤ 1048576 ∧ ∀ s ∈ namesB (turnB lP), s.size ≤ 1048576 := plan_small HT.out
      have LF : (namesB (flipB lP)).length ≤ 1048576 ∧ ∀ s ∈ namesB (flipB lP), s.size ≤ 1048576 := plan_small HF.out
      generalize namesB (turnB lP) = T at *
      generalize namesB (flipB lP) = F at *
      go_wp2_with fail
      refine (implPlanIn_any _ _ _ _ LP SP c_P).mono ?_
      rw [readOk_eq, hp]
      rintro e w4 ⟨rfl, hb⟩
      replace c_P := c_P.below hb
      replace hB := below_step hB hB.size hb
      clear hb
      go_wp2_with fail
      refine (specPlanIn_any _ _ _ _ LP SP c_P).mono ?_
      rw [hp]
      rintro e w5 ⟨rfl, hb⟩
      replace c_P := c_P.below hb
      replace hB := below_step hB hB.size hb
      clear hb
      go_wp2_with fail
      refine (HNA.out _ c_P).mono ?_
      rintro e w6 ⟨⟨roX, rcX, rfl, ow⟩, hb⟩
      replace c_P := c_P.below hb
      replace hB := below_step hB hB.size hb
      clear hb
      have c_X := owns_cells ow
      clear ow
      go_wp2_with fail
      refine (HTU.out _ c_P).mono ?_
      rintro e w7 ⟨⟨roT, rcT, rfl, ow⟩, hb⟩
      replace c_P := c_P.below hb
      replace c_X := c_X.below hb
      replace hB := below_step hB hB.size hb
      clear hb
      have c_T := owns_cells ow
      clear ow
      go_wp2_with fail
      refine (HFL.out _ c_P).mono ?_
      rintro e w8 ⟨⟨roF, rcF, rfl, ow⟩, hb⟩
      replace c_P := c_P.below hb
      replace c_X := c_X.below hb
      replace c_T := c_T.below hb
      replace hB := below_step hB hB.size hb
      clear hb
      have c_F := owns_cells ow
      clear ow
      go_wp2_with fail
      refine (sameTexts_any _ _ _ _ _ _ lP lP _ rfl rfl (by unfold maxLen; omega) c_X c_P).mono ?_
      rw [eqS_self]
      rintro e w9 ⟨rfl, hq⟩
      have hb := quiet_below hq
      clear hq
      replace c_P := c_P.below hb
      replace c_X := c_X.below hb
      replace c_T := c_T.below hb
      replace c_F := c_F.below hb
      replace hB := below_step hB hB.size hb
      clear hb
      go_wp2_with fail
      refine (implPlanIn_any _ _ _ _ LT.1 LT.2 c_T).mono ?_
      rw [readOk_eq, HT.out]
      rintro e w10 ⟨rfl, hb⟩
      replace c_P := c_P.below hb
      replace c_X := c_X.below hb
      replace c_T := c_T.below hb
      replace c_F := c_F.below hb
      replace hB := below_step hB hB.size hb
      clear hb
      go_wp2_with fail
      refine (implPlanIn_any _ _ _ _ LF.1 LF.2 c_F).mono ?_
      rw [readOk_eq, HF.out]
      rintro e w11 ⟨rfl, hb⟩
      replace c_P := c_P.below hb
      replace c_X := c_X.below hb
      replace c_T := c_T.below hb
      replace c_F := c_F.below hb
      replace hB := below_step hB hB.size hb
      clear hb
      go_wp2
      go_ret
      exact ⟨rfl, hB⟩
  · have hdC : decide (1048576 < (lC.length : Int)) = true := by rw [decide_eq_true_eq]; omega
    go_enter Try.func3, Try.ntmps3
    go_wp2
    go_ret
    exact ⟨rfl, Below.refl _ _⟩

set_option maxRecDepth 100000 in
theorem fnPlan_lifted (os : Os) (started : os.Started) (H : Type) (enc : TypeId × Value → H) :
    ReturnsInHanded {} Try.checked os 3 .any (Rows.fnPlanSpec.pre6 enc Try.prog Try.f3 Rows.fnPlanRow.domain false) (Rows.fnPlanSpec.post enc Try.prog Try.f3 false true false false) := by
  refine returnsInHanded_of_change (C := Try.checked) Try.own started (by kernel_rfl) Try.func3
    (ChangeSpec.witness6 (enc := enc) (C := Try.checked) false ⟨#[], #[.slice none 0 0], []⟩ 8 (by kernel_rfl) (by kernel_rfl) (by kernel_rfl) (by kernel_rfl)) ?_
  intro W base args ds gs before hval0 hW _ _
  have hval : ∀ (j : Nat) t v, Try.f3.params[j]? = some t → args[j]? = some v → Value.okWide Try.prog W .any base t v := hval0
  have hW' := hW
  obtain ⟨p, q, hA0, hV, rfl, _, _⟩ := hW
  have hA : DataW.TrodAll enc Try.prog W 0 (fun _ => true) true Try.f3.params.toList args.toList ds p := hA0
  rw [Try.params3] at hA hval
  obtain ⟨v0, d0, rfl, rfl, h0⟩ := trodAll_one hA
  obtain ⟨rfl, rfl⟩ := trodVars_none hV
  obtain ⟨aC, eC, kC, rfl⟩ := okWide_slice Try.underlying22 (hval 0 22 v0 rfl rfl)
  clear hA0 hval0
  simp only [List.append_nil] at hW'
  have hlt0 : ∀ x ∈ p, x.block < W.heap.size := fun x hx => by simpa using hW'.lt x (by simp [hx])
  obtain ⟨lC, rfl, mC, zC, cC⟩ := open_bytes h0
  refine (fnPlan_all aC kC lC W mC zC cC).mono fun e W' ⟨he, hb⟩ => ?_
  subst he
  refine ⟨_, rfl, _, _, _, [], _, [], hW', trodAll_mk1 (shut_bool Try.underlying4 _), trodAll_mk1 (Below.trod Try.laidOut (by kernel_rfl) (of_decide_eq_true (by kernel_rfl)) h0 hb hlt0), rfl, hb.frame _, fun h => by cases h⟩

theorem fnPlan_holds : Rows.FnPlanSaid :=
  OpenClaim.holds_of_wide 3 Try.f3 rfl rfl rfl rfl rfl rfl rfl ⟨rfl, rfl, rfl, rfl, rfl⟩ rfl rfl rfl rfl rfl (by kernel_rfl) Try.func3 (by kernel_rfl)
    (of_decide_eq_true (by kernel_rfl)) (by unfold Func.isWrapper; first | (rw [if_pos (by decide +kernel)]; kernel_rfl) | (rw [if_neg (by decide +kernel)]; exact ⟨rfl, rfl⟩))
    (fun os started H enc _ => fnPlan_lifted os started H enc)

end Go.Proofs.Ytdhnklaflbaeeaa
