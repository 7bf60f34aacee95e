
/-
  For every slice of bytes the law FnKind returns true, and the slice reads behind the call as it read before. No condition.
-/
import Derived.Test.YtcapagegeomebaaOrdH
import Derived.Test.YtcapagegeomebaaDrawO
import Derived.Test.YtcapagegeomebaaDraw
import Derived.Test.YtcapagegeomebaaLaws
namespace Go.Proofs.Ytcapagegeomebaa
open Go.ChangeShapes Go.WideShapes Go.ChangeAt Go.RowKit

set_option maxRecDepth 100000 in
set_option maxHeartbeats 4000000 in
theorem fnKind_all (aC : Option Addr) (kC : Nat) (lC : List UInt8) (w : World) (mC : lC.length ≤ maxLen) (zC : lC.length ≤ kC) (cC : CellsAt w aC (lC.map byteV)) :
    Calls Try.prog 5 #[.slice aC lC.length kC] w fun e w' => e = .returned (.bool true) ∧ Below w.heap.size w w' := by
  have mC2 := mC
  clear mC2
  by_cases dC : lC.length ≤ 1048576
  · have hdC : decide (1048576 < (lC.length : Int)) = false := by rw [decide_eq_false_iff_not]; omega
    go_enter Try.func5, Try.ntmps5
    go_wp2_with fail
    refine (drawOrderKind_any _ _ _ _ zC dC cC).mono ?_
    rintro e w1 ⟨⟨roP, rcP, lP, nA, nB, hsm, rfl, c_P⟩, hb⟩
    have hB := hb
    clear hb
    have LP : lP.length ≤ 1048576 := by have := hsm.2.1; omega
    have SP : ∀ s ∈ lP, s.size ≤ 1048576 := fun s h => by have := hsm.2.2 s h; omega
    cases hd : kindB lP nA nB
    · -- no kind
      have HI := Lib.hid (fun w c => implOrderKind_any roP rcP lP nA nB w LP SP c)
      have HS := Lib.hid (fun w c => specOrderKind_any roP rcP lP nA nB w LP SP c)
      rw [hd, kind_none hd] at HI HS
      go_wp2_with fail
      refine (HI.out _ c_P).mono ?_
      rintro e w2 ⟨rfl, hb⟩
      replace c_P := c_P.below hb
      replace hB := below_step hB hB.size hb
      clear hb
      go_wp2_with fail
      refine (HS.out _ c_P).mono ?_
      rintro e w3 ⟨rfl, hb⟩
      replace c_P := c_P.below hb
      replace hB := below_step hB hB.size hb
      clear hb
      go_wp2
      go_ret
      exact ⟨rfl, hB⟩
    · -- a kind
      have HI := Lib.hid (fun w c => implOrderKind_any roP rcP lP nA nB w LP SP c)
      have HS := Lib.hid (fun w c => specOrderKind_any roP rcP lP nA nB w LP SP c)
      have HL := Lib.hid (fun w c => implOrderLeft_any roP rcP lP nA nB w LP SP c)
      have HM := Lib.hid (fun w c => implOrderLeft_any roP rcP lP nB nA w LP SP c)
      have HU := Lib.hid (fun w c => implOrderAbove_any roP rcP lP nA nB w LP SP c)
      have HV := Lib.hid (fun w c => implOrderAbove_any roP rcP lP nB nA w LP SP c)
      rw [hd] at HI HS
      rcases kind_cases hd with ⟨e1, e2, e3, e4, e5⟩ | ⟨e1, e2, e3, e4, e5⟩ | ⟨e1, e2, e3, e4, e5⟩ | ⟨e1, e2, e3, e4, e5⟩ <;> rw [e5] at HI HS <;> rw [e1] at HL <;> rw [e2] at HM <;> rw [e3] at HU <;> rw [e4] at HV <;> clear e1 e2 e3 e4 e5 hd
      · skip
        go_wp2_with fail
        refine (HI.out _ c_P).mono ?_
        rintro e w4 ⟨rfl, hb⟩
        replace c_P := c_P.below hb
        replace hB := below_step hB hB.size hb
        clear hb
        go_wp2_with fail
        refine (HS.out _ c_P).mono ?_
        rintro e w5 ⟨rfl, hb⟩
        replace c_P := c_P.below hb
        replace hB := below_step hB hB.size hb
        clear hb
        go_wp2_with fail
        refine (HL.out _ c_P).mono ?_
        rintro e w6 ⟨rfl, hb⟩
        replace c_P := c_P.below hb
        replace hB := below_step hB hB.size hb
        clear hb
        go_wp2_with fail
        refine (HM.out _ c_P).mono ?_
        rintro e w7 ⟨rfl, hb⟩
        replace c_P := c_P.below hb
        replace hB := below_step hB hB.size hb
        clear hb
        go_wp2_with fail
        refine (HU.out _ c_P).mono ?_
        rintro e w8 ⟨rfl, hb⟩
        replace c_P := c_P.below hb
        replace hB := below_step hB hB.size hb
        clear hb
        go_wp2_with fail
        refine (HV.out _ c_P).mono ?_
        rintro e w9 ⟨rfl, hb⟩
        replace c_P := c_P.below hb
        replace hB := below_step hB hB.size hb
        clear hb
        go_wp2_with fail
        refine (HL.out _ c_P).mono ?_
        rintro e w10 ⟨rfl, hb⟩
        replace c_P := c_P.below hb
        replace hB := below_step hB hB.size hb
        clear hb
        go_wp2_with fail
        refine (HM.out _ c_P).mono ?_
        rintro e w11 ⟨rfl, hb⟩
        replace c_P := c_P.below hb
        replace hB := below_step hB hB.size hb
        clear hb
        go_wp2_with fail
        refine (HU.out _ c_P).mono ?_
        rintro e w12 ⟨rfl, hb⟩
        replace c_P := c_P.below hb
        replace hB := below_step hB hB.size hb
        clear hb
        go_wp2
        go_ret
        exact ⟨rfl, hB⟩
      · skip
        go_wp2_with fail
        refine (HI.out _ c_P).mono ?_
        rintro e w13 ⟨rfl, hb⟩
        replace c_P := c_P.below hb
        replace hB := below_step hB hB.size hb
        clear hb
        go_wp2_with fail
        refine (HS.out _ c_P).mono ?_
        rintro e w14 ⟨rfl, hb⟩
        replace c_P := c_P.below hb
        replace hB := below_step hB hB.size hb
        clear hb
        go_wp2_with fail
        refine (HL.out _ c_P).mono ?_
        rintro e w15 ⟨rfl, hb⟩
        replace c_P := c_P.below hb
        replace hB := below_step hB hB.size hb
        clear hb
        go_wp2_with fail
        refine (HM.out _ c_P).mono ?_
        rintro e w16 ⟨rfl, hb⟩
        replace c_P := c_P.below hb
        replace hB := below_step hB hB.size hb
        clear hb
        go_wp2_with fail
        refine (HU.out _ c_P).mono ?_
        rintro e w17 ⟨rfl, hb⟩
        replace c_P := c_P.below hb
        replace hB := below_step hB hB.size hb
        clear hb
        go_wp2_with fail
        refine (HV.out _ c_P).mono ?_
        rintro e w18 ⟨rfl, hb⟩
        replace c_P := c_P.below hb
        replace hB := below_step hB hB.size hb
        clear hb
        go_wp2_with fail
        refine (HL.out _ c_P).mono ?_
        rintro e w19 ⟨rfl, hb⟩
        replace c_P := c_P.below hb
        replace hB := below_step hB hB.size hb
        clear hb
        go_wp2_with fail
        refine (HM.out _ c_P).mono ?_
        rintro e w20 ⟨rfl, hb⟩
        replace c_P := c_P.below hb
        replace hB := below_step hB hB.size hb
        clear hb
        go_wp2_with fail
        refine (HU.out _ c_P).mono ?_
        rintro e w21 ⟨rfl, hb⟩
        replace c_P := c_P.below hb
        replace hB := below_step hB hB.size hb
        clear hb
        go_wp2
        go_ret
        exact ⟨rfl, hB⟩
      · skip
        go_wp2_with fail
        refine (HI.out _ c_P).mono ?_
        rintro e w22 ⟨rfl, hb⟩
        replace c_P := c_P.below hb
        replace hB := below_step hB hB.size hb
        clear hb
        go_wp2_with fail
        refine (HS.out _ c_P).mono ?_
        rintro e w23 ⟨rfl, hb⟩
        replace c_P := c_P.below hb
        replace hB := below_step hB hB.size hb
        clear hb
        go_wp2_with fail
        refine (HL.out _ c_P).mono ?_
        rintro e w24 ⟨rfl, hb⟩
        replace c_P := c_P.below hb
        replace hB := below_step hB hB.size hb
        clear hb
        go_wp2_with fail
        refine (HM.out _ c_P).mono ?_
        rintro e w25 ⟨rfl, hb⟩
        replace c_P := c_P.below hb
        replace hB := below_step hB hB.size hb
        clear hb
        go_wp2_with fail
        refine (HU.out _ c_P).mono ?_
        rintro e w26 ⟨rfl, hb⟩
        replace c_P := c_P.below hb
        replace hB := below_step hB hB.size hb
        clear hb
        go_wp2_with fail
        refine (HV.out _ c_P).mono ?_
        rintro e w27 ⟨rfl, hb⟩
        replace c_P := c_P.below hb
        replace hB := below_step hB hB.size hb
        clear hb
        go_wp2_with fail
        refine (HL.out _ c_P).mono ?_
        rintro e w28 ⟨rfl, hb⟩
        replace c_P := c_P.below hb
        replace hB := below_step hB hB.size hb
        clear hb
        go_wp2_with fail
        refine (HM.out _ c_P).mono ?_
        rintro e w29 ⟨rfl, hb⟩
        replace c_P := c_P.below hb
        replace hB := below_step hB hB.size hb
        clear hb
        go_wp2_with fail
        refine (HU.out _ c_P).mono ?_
        rintro e w30 ⟨rfl, hb⟩
        replace c_P := c_P.below hb
        replace hB := below_step hB hB.size hb
        clear hb
        go_wp2
        go_ret
        exact ⟨rfl, hB⟩
      · skip
        go_wp2_with fail
        refine (HI.out _ c_P).mono ?_
        rintro e w31 ⟨rfl, hb⟩
        replace c_P := c_P.below hb
        replace hB := below_step hB hB.size hb
        clear hb
        go_wp2_with fail
        refine (HS.out _ c_P).mono ?_
        rintro e w32 ⟨rfl, hb⟩
        replace c_P := c_P.below hb
        replace hB := below_step hB hB.size hb
        clear hb
        go_wp2_with fail
        refine (HL.out _ c_P).mono ?_
        rintro e w33 ⟨rfl, hb⟩
        replace c_P := c_P.below hb
        replace hB := below_step hB hB.size hb
        clear hb
        go_wp2_with fail
        refine (HM.out _ c_P).mono ?_
        rintro e w34 ⟨rfl, hb⟩
        replace c_P := c_P.below hb
        replace hB := below_step hB hB.size hb
        clear hb
        go_wp2_with fail
        refine (HU.out _ c_P).mono ?_
        rintro e w35 ⟨rfl, hb⟩
        replace c_P := c_P.below hb
        replace hB := below_step hB hB.size hb
        clear hb
        go_wp2_with fail
        refine (HV.out _ c_P).mono ?_
        rintro e w36 ⟨rfl, hb⟩
        replace c_P := c_P.below hb
        replace hB := below_step hB hB.size hb
        clear hb
        go_wp2_with fail
        refine (HL.out _ c_P).mono ?_
        rintro e w37 ⟨rfl, hb⟩
        replace c_P := c_P.below hb
        replace hB := below_step hB hB.size hb
        clear hb
        go_wp2_with fail
        refine (HM.out _ c_P).mono ?_
        rintro e w38 ⟨rfl, hb⟩
        replace c_P := c_P.below hb
        replace hB := below_step hB hB.size hb
        clear hb
        go_wp2_with fail
        refine (HU.out _ c_P).mono ?_
        rintro e w39 ⟨rfl, hb⟩
        replace c_P := c_P.below hb
        replace hB := below_step hB hB.size hb
        clear hb
        go_wp2
        go_ret
        exact ⟨rfl, hB⟩
  · have hdC : decide (1048576 < (lC.length : Int)) = true := by rw [decide_eq_true_eq]; omega
    go_enter Try.func5, Try.ntmps5
    go_wp2
    go_ret
    exact ⟨rfl, Below.refl _ _⟩

set_option maxRecDepth 100000 in
theorem fnKind_lifted (os : Os) (started : os.Started) (H : Type) (enc : TypeId × Value → H) :
    ReturnsInHanded {} Try.checked os 5 .any (Rows.fnKindSpec.pre6 enc Try.prog Try.f5 Rows.fnKindRow.domain false) (Rows.fnKindSpec.post enc Try.prog Try.f5 false true false false) := by
  refine returnsInHanded_of_change (C := Try.checked) Try.own started (by kernel_rfl) Try.func5
    (ChangeSpec.witness6 (enc := enc) (C := Try.checked) false ⟨#[], #[.slice none 0 0], []⟩ 8 (by kernel_rfl) (by kernel_rfl) (by kernel_rfl) (by kernel_rfl)) ?_
  intro W base args ds gs before hval0 hW _ _
  have hval : ∀ (j : Nat) t v, Try.f5.params[j]? = some t → args[j]? = some v → Value.okWide Try.prog W .any base t v := hval0
  have hW' := hW
  obtain ⟨p, q, hA0, hV, rfl, _, _⟩ := hW
  have hA : DataW.TrodAll enc Try.prog W 0 (fun _ => true) true Try.f5.params.toList args.toList ds p := hA0
  rw [Try.params5] at hA hval
  obtain ⟨v0, d0, rfl, rfl, h0⟩ := trodAll_one hA
  obtain ⟨rfl, rfl⟩ := trodVars_none hV
  obtain ⟨aC, eC, kC, rfl⟩ := okWide_slice Try.underlying22 (hval 0 22 v0 rfl rfl)
  clear hA0 hval0
  simp only [List.append_nil] at hW'
  have hlt0 : ∀ x ∈ p, x.block < W.heap.size := fun x hx => by simpa using hW'.lt x (by simp [hx])
  obtain ⟨lC, rfl, mC, zC, cC⟩ := open_bytes h0
  refine (fnKind_all aC kC lC W mC zC cC).mono fun e W' ⟨he, hb⟩ => ?_
  subst he
  refine ⟨_, rfl, _, _, _, [], _, [], hW', trodAll_mk1 (shut_bool Try.underlying4 _), trodAll_mk1 (Below.trod Try.laidOut (by kernel_rfl) (of_decide_eq_true (by kernel_rfl)) h0 hb hlt0), rfl, hb.frame _, fun h => by cases h⟩

theorem fnKind_holds : Rows.FnKindSaid :=
  OpenClaim.holds_of_wide 5 Try.f5 rfl rfl rfl rfl rfl rfl rfl ⟨rfl, rfl, rfl, rfl, rfl⟩ rfl rfl rfl rfl rfl (by kernel_rfl) Try.func5 (by kernel_rfl)
    (of_decide_eq_true (by kernel_rfl)) (by unfold Func.isWrapper; first | (rw [if_pos (by decide +kernel)]; kernel_rfl) | (rw [if_neg (by decide +kernel)]; exact ⟨rfl, rfl⟩))
    (fun os started H enc _ => fnKind_lifted os started H enc)

end Go.Proofs.Ytcapagegeomebaa
