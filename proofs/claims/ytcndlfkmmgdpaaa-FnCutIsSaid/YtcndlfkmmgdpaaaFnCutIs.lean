
/-
  For every slice of bytes the law FnCutIs returns true, and the slice reads behind the call as it read before. No condition.
-/
import Derived.Test.YtcndlfkmmgdpaaaGuiQ
import Derived.Test.YtcndlfkmmgdpaaaTightS
import Derived.Test.YtcndlfkmmgdpaaaDrawW
import Derived.Test.YtcndlfkmmgdpaaaDraw
import Derived.Test.YtcndlfkmmgdpaaaLaws
namespace Go.Proofs.Ytcndlfkmmgdpaaa
open Go.ChangeShapes Go.WideShapes Go.ChangeAt Go.RowKit

set_option maxRecDepth 100000 in
set_option maxHeartbeats 4000000 in
theorem fnCutIs_all (aC : Option Addr) (kC : Nat) (lC : List UInt8) (w : World) (mC : lC.length ≤ maxLen) (zC : lC.length ≤ kC) (cC : CellsAt w aC (lC.map byteV)) :
    Calls Try.prog 3 #[.slice aC lC.length kC] w fun e w' => e = .returned (.bool true) ∧ Below w.heap.size w w' := by
  have mC2 := mC
  clear mC2
  by_cases dC : lC.length ≤ 1048576
  · have hdC : decide (1048576 < (lC.length : Int)) = false := by rw [decide_eq_false_iff_not]; omega
    go_enter Try.func3, Try.ntmps3
    go_wp2_with fail
    refine (drawCutIs_any _ _ _ _ zC dC cC).mono ?_
    rintro e w1 ⟨⟨roP, rcP, lP, hsm, rfl, c_P⟩, hb⟩
    have hB := hb
    clear hb
    have LP : lP.length ≤ 1048576 := by have := hsm.2.1; omega
    have SP : ∀ s ∈ lP, s.size ≤ 1048576 := fun s h => by have := hsm.2.2 s h; omega
    have HI := Lib.hid (fun w c => implCutIs_any roP rcP lP w LP SP c)
    have HS := Lib.hid (fun w c => specCutIs_any roP rcP lP w LP SP c)
    cases hT : (treeP lP).isSome
    · -- not cuttable
      rw [hT] at HI HS
      go_wp2_with fail
      refine (HI.out _ c_P).mono ?_
      rintro e w2 ⟨rfl, hb⟩
      replace c_P := c_P.below hb
      replace hB := below_step hB hB.size hb
      clear hb
      go_wp2_with fail
      refine (HS.out _ c_P).mono ?_
      rintro e w3 ⟨rfl, hb⟩
      replace c_P := c_P.below hb
      replace hB := below_step hB hB.size hb
      clear hb
      go_wp2
      go_ret
      exact ⟨rfl, hB⟩
    · -- cuttable
      have hP := (gui_of hT).1
      have HT := Lib.hid (fun w c => implTurn_any roP rcP lP w LP SP c)
      have HF := Lib.hid (fun w c => implFlip_any roP rcP lP w LP SP c)
      have HG := Lib.hid (fun w c => implTight_any roP rcP lP w LP SP c)
      have HB := Lib.hid (fun w c => implBeside_any roP roP rcP rcP lP lP w LP SP LP SP c c)
      have LT := plan_small (is_turn hP).plan
      have KT := Lib.hid (fun ro rc w c => implCutIs_any ro rc (namesB (turnB lP)) w LT.1 LT.2 c)
      rw [(cut_turn hT).1] at KT
      have LF := plan_small (is_flip hP).plan
      have KF := Lib.hid (fun ro rc w c => implCutIs_any ro rc (namesB (flipB lP)) w LF.1 LF.2 c)
      rw [cut_flip hT] at KF
      have LG := plan_small (Is.self hP).tight.plan
      have KG := Lib.hid (fun ro rc w c => implCutIs_any ro rc (tightB lP) w LG.1 LG.2 c)
      rw [cut_tight hT] at KG
      rw [hT] at HI HS
      rw [hP, orNone_yes rfl] at HT HF HG
      generalize namesB (turnB lP) = T at *
      generalize namesB (flipB lP) = F at *
      generalize tightB lP = G at *
      cases hb2 : besideOk lP lP
      · -- beside False
        rw [hb2, orNone_no rfl] at HB
        clear hb2 hT hP LT LF LG LP SP hsm
        go_wp2_with fail
        refine (HI.out _ c_P).mono ?_
        rintro e w4 ⟨rfl, hb⟩
        replace c_P := c_P.below hb
        replace hB := below_step hB hB.size hb
        clear hb
        go_wp2_with fail
        refine (HS.out _ c_P).mono ?_
        rintro e w5 ⟨rfl, hb⟩
        replace c_P := c_P.below hb
        replace hB := below_step hB hB.size hb
        clear hb
        go_wp2_with fail
        refine (HT.out _ c_P).mono ?_
        rintro e w6 ⟨⟨roT, rcT, rfl, ow⟩, hb⟩
        replace c_P := c_P.below hb
        replace hB := below_step hB hB.size hb
        clear hb
        have c_T := owns_cells ow
        clear ow
        go_wp2_with fail
        refine (HF.out _ c_P).mono ?_
        rintro e w7 ⟨⟨roF, rcF, rfl, ow⟩, hb⟩
        replace c_P := c_P.below hb
        replace c_T := c_T.below hb
        replace hB := below_step hB hB.size hb
        clear hb
        have c_F := owns_cells ow
        clear ow
        go_wp2_with fail
        refine (HG.out _ c_P).mono ?_
        rintro e w8 ⟨⟨roG, rcG, rfl, ow⟩, hb⟩
        replace c_P := c_P.below hb
        replace c_T := c_T.below hb
        replace c_F := c_F.below hb
        replace hB := below_step hB hB.size hb
        clear hb
        have c_G := owns_cells ow
        clear ow
        go_wp2_with fail
        refine (HB.out _ c_P).mono ?_
        rintro e w9 ⟨⟨roD, rcD, rfl, ow⟩, hb⟩
        replace c_P := c_P.below hb
        replace c_T := c_T.below hb
        replace c_F := c_F.below hb
        replace c_G := c_G.below hb
        replace hB := below_step hB hB.size hb
        clear hb
        have c_D := owns_cells ow
        clear ow
        go_wp2_with fail
        refine (KT.out _ _ _ c_T).mono ?_
        rintro e w10 ⟨rfl, hb⟩
        replace c_P := c_P.below hb
        replace c_T := c_T.below hb
        replace c_F := c_F.below hb
        replace c_G := c_G.below hb
        replace c_D := c_D.below hb
        replace hB := below_step hB hB.size hb
        clear hb
        go_wp2_with fail
        refine (KF.out _ _ _ c_F).mono ?_
        rintro e w11 ⟨rfl, hb⟩
        replace c_P := c_P.below hb
        replace c_T := c_T.below hb
        replace c_F := c_F.below hb
        replace c_G := c_G.below hb
        replace c_D := c_D.below hb
        replace hB := below_step hB hB.size hb
        clear hb
        go_wp2_with fail
        refine (KG.out _ _ _ c_G).mono ?_
        rintro e w12 ⟨rfl, hb⟩
        replace c_P := c_P.below hb
        replace c_T := c_T.below hb
        replace c_F := c_F.below hb
        replace c_G := c_G.below hb
        replace c_D := c_D.below hb
        replace hB := below_step hB hB.size hb
        clear hb
        go_wp2
        go_ret
        exact ⟨rfl, hB⟩
      · -- beside True
        have LB := plan_small (is_beside hb2).2.2.2.plan
        have KB := Lib.hid (fun ro rc w c => implCutIs_any ro rc (namesB (besideT lP lP)) w LB.1 LB.2 c)
        rw [cut_beside hT hb2] at KB
        rw [hb2, orNone_yes rfl] at HB
        generalize namesB (besideT lP lP) = D at *
        clear LB
        clear hb2 hT hP LT LF LG LP SP hsm
        go_wp2_with fail
        refine (HI.out _ c_P).mono ?_
        rintro e w13 ⟨rfl, hb⟩
        replace c_P := c_P.below hb
        replace hB := below_step hB hB.size hb
        clear hb
        go_wp2_with fail
        refine (HS.out _ c_P).mono ?_
        rintro e w14 ⟨rfl, hb⟩
        replace c_P := c_P.below hb
        replace hB := below_step hB hB.size hb
        clear hb
        go_wp2_with fail
        refine (HT.out _ c_P).mono ?_
        rintro e w15 ⟨⟨roT, rcT, rfl, ow⟩, hb⟩
        replace c_P := c_P.below hb
        replace hB := below_step hB hB.size hb
        clear hb
        have c_T := owns_cells ow
        clear ow
        go_wp2_with fail
        refine (HF.out _ c_P).mono ?_
        rintro e w16 ⟨⟨roF, rcF, rfl, ow⟩, hb⟩
        replace c_P := c_P.below hb
        replace c_T := c_T.below hb
        replace hB := below_step hB hB.size hb
        clear hb
        have c_F := owns_cells ow
        clear ow
        go_wp2_with fail
        refine (HG.out _ c_P).mono ?_
        rintro e w17 ⟨⟨roG, rcG, rfl, ow⟩, hb⟩
        replace c_P := c_P.below hb
        replace c_T := c_T.below hb
        replace c_F := c_F.below hb
        replace hB := below_step hB hB.size hb
        clear hb
        have c_G := owns_cells ow
        clear ow
        go_wp2_with fail
        refine (HB.out _ c_P).mono ?_
        rintro e w18 ⟨⟨roD, rcD, rfl, ow⟩, hb⟩
        replace c_P := c_P.below hb
        replace c_T := c_T.below hb
        replace c_F := c_F.below hb
        replace c_G := c_G.below hb
        replace hB := below_step hB hB.size hb
        clear hb
        have c_D := owns_cells ow
        clear ow
        go_wp2_with fail
        refine (KT.out _ _ _ c_T).mono ?_
        rintro e w19 ⟨rfl, hb⟩
        replace c_P := c_P.below hb
        replace c_T := c_T.below hb
        replace c_F := c_F.below hb
        replace c_G := c_G.below hb
        replace c_D := c_D.below hb
        replace hB := below_step hB hB.size hb
        clear hb
        go_wp2_with fail
        refine (KF.out _ _ _ c_F).mono ?_
        rintro e w20 ⟨rfl, hb⟩
        replace c_P := c_P.below hb
        replace c_T := c_T.below hb
        replace c_F := c_F.below hb
        replace c_G := c_G.below hb
        replace c_D := c_D.below hb
        replace hB := below_step hB hB.size hb
        clear hb
        go_wp2_with fail
        refine (KG.out _ _ _ c_G).mono ?_
        rintro e w21 ⟨rfl, hb⟩
        replace c_P := c_P.below hb
        replace c_T := c_T.below hb
        replace c_F := c_F.below hb
        replace c_G := c_G.below hb
        replace c_D := c_D.below hb
        replace hB := below_step hB hB.size hb
        clear hb
        go_wp2_with fail
        refine (KB.out _ _ _ c_D).mono ?_
        rintro e w22 ⟨rfl, hb⟩
        replace c_P := c_P.below hb
        replace c_T := c_T.below hb
        replace c_F := c_F.below hb
        replace c_G := c_G.below hb
        replace c_D := c_D.below hb
        replace hB := below_step hB hB.size hb
        clear hb
        go_wp2
        go_ret
        exact ⟨rfl, hB⟩
  · have hdC : decide (1048576 < (lC.length : Int)) = true := by rw [decide_eq_true_eq]; omega
    go_enter Try.func3, Try.ntmps3
    go_wp2
    go_ret
    exact ⟨rfl, Below.refl _ _⟩

set_option maxRecDepth 100000 in
theorem fnCutIs_lifted (os : Os) (started : os.Started) (H : Type) (enc : TypeId × Value → H) :
    ReturnsInHanded {} Try.checked os 3 .any (Rows.fnCutIsSpec.pre6 enc Try.prog Try.f3 Rows.fnCutIsRow.domain false) (Rows.fnCutIsSpec.post enc Try.prog Try.f3 false true false false) := by
  refine returnsInHanded_of_change (C := Try.checked) Try.own started (by kernel_rfl) Try.func3
    (ChangeSpec.witness6 (enc := enc) (C := Try.checked) false ⟨#[], #[.slice none 0 0], []⟩ 8 (by kernel_rfl) (by kernel_rfl) (by kernel_rfl) (by kernel_rfl)) ?_
  intro W base args ds gs before hval0 hW _ _
  have hval : ∀ (j : Nat) t v, Try.f3.params[j]? = some t → args[j]? = some v → Value.okWide Try.prog W .any base t v := hval0
  have hW' := hW
  obtain ⟨p, q, hA0, hV, rfl, _, _⟩ := hW
  have hA : DataW.TrodAll enc Try.prog W 0 (fun _ => true) true Try.f3.params.toList args.toList ds p := hA0
  rw [Try.params3] at hA hval
  obtain ⟨v0, d0, rfl, rfl, h0⟩ := trodAll_one hA
  obtain ⟨rfl, rfl⟩ := trodVars_none hV
  obtain ⟨aC, eC, kC, rfl⟩ := okWide_slice Try.underlying22 (hval 0 22 v0 rfl rfl)
  clear hA0 hval0
  simp only [List.append_nil] at hW'
  have hlt0 : ∀ x ∈ p, x.block < W.heap.size := fun x hx => by simpa using hW'.lt x (by simp [hx])
  obtain ⟨lC, rfl, mC, zC, cC⟩ := open_bytes h0
  refine (fnCutIs_all aC kC lC W mC zC cC).mono fun e W' ⟨he, hb⟩ => ?_
  subst he
  refine ⟨_, rfl, _, _, _, [], _, [], hW', trodAll_mk1 (shut_bool Try.underlying4 _), trodAll_mk1 (Below.trod Try.laidOut (by kernel_rfl) (of_decide_eq_true (by kernel_rfl)) h0 hb hlt0), rfl, hb.frame _, fun h => by cases h⟩

theorem fnCutIs_holds : Rows.FnCutIsSaid :=
  OpenClaim.holds_of_wide 3 Try.f3 rfl rfl rfl rfl rfl rfl rfl ⟨rfl, rfl, rfl, rfl, rfl⟩ rfl rfl rfl rfl rfl (by kernel_rfl) Try.func3 (by kernel_rfl)
    (of_decide_eq_true (by kernel_rfl)) (by unfold Func.isWrapper; first | (rw [if_pos (by decide +kernel)]; kernel_rfl) | (rw [if_neg (by decide +kernel)]; exact ⟨rfl, rfl⟩))
    (fun os started H enc _ => fnCutIs_lifted os started H enc)

end Go.Proofs.Ytcndlfkmmgdpaaa
