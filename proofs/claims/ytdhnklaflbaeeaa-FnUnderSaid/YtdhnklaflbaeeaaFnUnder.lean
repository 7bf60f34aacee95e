
/-
  For every slice of bytes the law FnUnder returns true, and the slice reads behind the call as it read before. No condition.
-/
import Derived.Test.YtdhnklaflbaeeaaPair
import Derived.Test.YtdhnklaflbaeeaaDraw
import Derived.Test.YtdhnklaflbaeeaaLaws
namespace Go.Proofs.Ytdhnklaflbaeeaa
open Go.ChangeShapes Go.WideShapes Go.ChangeAt Go.RowKit

set_option maxRecDepth 100000 in
set_option maxHeartbeats 4000000 in
theorem fnUnder_all (aC : Option Addr) (kC : Nat) (lC : List UInt8) (w : World) (mC : lC.length ≤ maxLen) (zC : lC.length ≤ kC) (cC : CellsAt w aC (lC.map byteV)) :
    Calls Try.prog 12 #[.slice aC lC.length kC] w fun e w' => e = .returned (.bool true) ∧ Below w.heap.size w w' := by
  have mC2 := mC
  clear mC2
  by_cases dC : lC.length ≤ 1048576
  · have hdC : decide (1048576 < (lC.length : Int)) = false := by rw [decide_eq_false_iff_not]; omega
    go_enter Try.func12, Try.ntmps12
    go_wp2_with fail
    refine (drawPlanUnder_any _ _ _ _ zC dC cC).mono ?_
    rintro e w1 ⟨⟨roP, rcP, lP, roQ, rcQ, lQ, hsm, hsm2, rfl, c_P, c_Q⟩, hb⟩
    have hB := hb
    clear hb
    have LP : lP.length ≤ 1048576 := by have := hsm.2.1; omega
    have SP : ∀ s ∈ lP, s.size ≤ 1048576 := fun s h => by have := hsm.2.2 s h; omega
    have LQ : lQ.length ≤ 1048576 := by have := hsm2.2.1; omega
    have SQ : ∀ s ∈ lQ, s.size ≤ 1048576 := fun s h => by have := hsm2.2.2 s h; omega
    cases hp : underOk lP lQ
    · -- none
      have HI := Lib.hid (fun w c d => implUnder_any roP roQ rcP rcQ lP lQ w LP SP LQ SQ c d)
      have HS := Lib.hid (fun w c d => specUnder_any roP roQ rcP rcQ lP lQ w LP SP LQ SQ c d)
      rw [hp, orNone_no rfl] at HI HS
      go_wp2_with fail
      refine (HI.out _ c_P c_Q).mono ?_
      rintro e w2 ⟨⟨roO, rcO, rfl, ow⟩, hb⟩
      replace c_P := c_P.below hb
      replace c_Q := c_Q.below hb
      replace hB := below_step hB hB.size hb
      clear hb
      have c_O := owns_cells ow
      clear ow
      go_wp2_with fail
      refine (HS.out _ c_P c_Q).mono ?_
      rintro e w3 ⟨⟨roW, rcW, rfl, ow⟩, hb⟩
      replace c_P := c_P.below hb
      replace c_Q := c_Q.below hb
      replace c_O := c_O.below hb
      replace hB := below_step hB hB.size hb
      clear hb
      have c_W := owns_cells ow
      clear ow
      go_wp2_with fail
      refine (sameTexts_any _ _ _ _ _ _ [] [] _ rfl rfl (by exact Nat.zero_le _) c_O c_W).mono ?_
      rw [eqS_self]
      rintro e w4 ⟨rfl, hq⟩
      have hb := quiet_below hq
      clear hq
      replace c_P := c_P.below hb
      replace c_Q := c_Q.below hb
      replace c_O := c_O.below hb
      replace c_W := c_W.below hb
      replace hB := below_step hB hB.size hb
      clear hb
      go_wp2_with fail
      refine (sameTexts_any _ _ _ _ _ _ [] [] _ rfl rfl (by exact Nat.zero_le _) c_O c_W).mono ?_
      rw [eqS_self]
      rintro e w5 ⟨rfl, hq⟩
      have hb := quiet_below hq
      clear hq
      replace c_P := c_P.below hb
      replace c_Q := c_Q.below hb
      replace c_O := c_O.below hb
      replace c_W := c_W.below hb
      replace hB := below_step hB hB.size hb
      clear hb
      go_wp2
      go_ret
      exact ⟨rfl, hB⟩
    · -- a plan
      have HI := Lib.hid (fun w c d => implUnder_any roP roQ rcP rcQ lP lQ w LP SP LQ SQ c d)
      have HS := Lib.hid (fun w c d => specUnder_any roP roQ rcP rcQ lP lQ w LP SP LQ SQ c d)
      rw [hp, orNone_yes rfl] at HI HS
      obtain ⟨pP, pQ, pO, pB, eB⟩ := under_trans hp
      have LO := plan_small pO
      have LF := plan_small (is_trans pP).plan
      have LG := plan_small (is_trans pQ).plan
      have LY := plan_small (is_trans pO).plan
      have HF := Lib.hid (fun w c => implTrans_any roP rcP lP w LP SP c)
      have HG := Lib.hid (fun w c => implTrans_any roQ rcQ lQ w LQ SQ c)
      have HX := Lib.hid (fun ro rc ro2 rc2 w c d => implBeside_any ro ro2 rc rc2 (namesB (transB lP)) (namesB (transB lQ)) w LF.1 LF.2 LG.1 LG.2 c d)
      have HY := Lib.hid (fun ro rc w c => implTrans_any ro rc (namesB (underT lP lQ)) w LO.1 LO.2 c)
      rw [pP, orNone_yes rfl] at HF
      rw [pQ, orNone_yes rfl] at HG
      rw [pB, orNone_yes rfl, eB] at HX
      rw [pO, orNone_yes rfl] at HY
      have LO1 := LO.1
      have LY1 := LY.1
      clear LO LF LG LY pO pB eB
      generalize namesB (transB (namesB (underT lP lQ))) = Y at *
      generalize namesB (underT lP lQ) = O at *
      generalize namesB (transB lP) = F at *
      generalize namesB (transB lQ) = G at *
      go_wp2_with fail
      refine (HI.out _ c_P c_Q).mono ?_
      rintro e w6 ⟨⟨roO, rcO, rfl, ow⟩, hb⟩
      replace c_P := c_P.below hb
      replace c_Q := c_Q.below hb
      replace hB := below_step hB hB.size hb
      clear hb
      have c_O := owns_cells ow
      clear ow
      go_wp2_with fail
      refine (HS.out _ c_P c_Q).mono ?_
      rintro e w7 ⟨⟨roW, rcW, rfl, ow⟩, hb⟩
      replace c_P := c_P.below hb
      replace c_Q := c_Q.below hb
      replace c_O := c_O.below hb
      replace hB := below_step hB hB.size hb
      clear hb
      have c_W := owns_cells ow
      clear ow
      go_wp2_with fail
      refine (sameTexts_any _ _ _ _ _ _ O O _ rfl rfl (by unfold maxLen; omega) c_O c_W).mono ?_
      rw [eqS_self]
      rintro e w8 ⟨rfl, hq⟩
      have hb := quiet_below hq
      clear hq
      replace c_P := c_P.below hb
      replace c_Q := c_Q.below hb
      replace c_O := c_O.below hb
      replace c_W := c_W.below hb
      replace hB := below_step hB hB.size hb
      clear hb
      go_wp2_with fail
      refine (HF.out _ c_P).mono ?_
      rintro e w9 ⟨⟨roF, rcF, rfl, ow⟩, hb⟩
      replace c_P := c_P.below hb
      replace c_Q := c_Q.below hb
      replace c_O := c_O.below hb
      replace c_W := c_W.below hb
      replace hB := below_step hB hB.size hb
      clear hb
      have c_F := owns_cells ow
      clear ow
      go_wp2_with fail
      refine (HG.out _ c_Q).mono ?_
      rintro e w10 ⟨⟨roG, rcG, rfl, ow⟩, hb⟩
      replace c_P := c_P.below hb
      replace c_Q := c_Q.below hb
      replace c_O := c_O.below hb
      replace c_W := c_W.below hb
      replace c_F := c_F.below hb
      replace hB := below_step hB hB.size hb
      clear hb
      have c_G := owns_cells ow
      clear ow
      go_wp2_with fail
      refine (HX.out _ _ _ _ _ c_F c_G).mono ?_
      rintro e w11 ⟨⟨roX, rcX, rfl, ow⟩, hb⟩
      replace c_P := c_P.below hb
      replace c_Q := c_Q.below hb
      replace c_O := c_O.below hb
      replace c_W := c_W.below hb
      replace c_F := c_F.below hb
      replace c_G := c_G.below hb
      replace hB := below_step hB hB.size hb
      clear hb
      have c_X := owns_cells ow
      clear ow
      go_wp2_with fail
      refine (HY.out _ _ _ c_O).mono ?_
      rintro e w12 ⟨⟨roY, rcY, rfl, ow⟩, hb⟩
      replace c_P := c_P.below hb
      replace c_Q := c_Q.below hb
      replace c_O := c_O.below hb
      replace c_W := c_W.below hb
      replace c_F := c_F.below hb
      replace c_G := c_G.below hb
      replace c_X := c_X.below hb
      replace hB := below_step hB hB.size hb
      clear hb
      have c_Y := owns_cells ow
      clear ow
      go_wp2_with fail
      refine (sameTexts_any _ _ _ _ _ _ Y Y _ rfl rfl (by unfold maxLen; omega) c_X c_Y).mono ?_
      rw [eqS_self]
      rintro e w13 ⟨rfl, hq⟩
      have hb := quiet_below hq
      clear hq
      replace c_P := c_P.below hb
      replace c_Q := c_Q.below hb
      replace c_O := c_O.below hb
      replace c_W := c_W.below hb
      replace c_F := c_F.below hb
      replace c_G := c_G.below hb
      replace c_X := c_X.below hb
      replace c_Y := c_Y.below hb
      replace hB := below_step hB hB.size hb
      clear hb
      go_wp2
      go_ret
      exact ⟨rfl, hB⟩
  · have hdC : decide (1048576 < (lC.length : Int)) = true := by rw [decide_eq_true_eq]; omega
    go_enter Try.func12, Try.ntmps12
    go_wp2
    go_ret
    exact ⟨rfl, Below.refl _ _⟩

set_option maxRecDepth 100000 in
theorem fnUnder_lifted (os : Os) (started : os.Started) (H : Type) (enc : TypeId × Value → H) :
    ReturnsInHanded {} Try.checked os 12 .any (Rows.fnUnderSpec.pre6 enc Try.prog Try.f12 Rows.fnUnderRow.domain false) (Rows.fnUnderSpec.post enc Try.prog Try.f12 false true false false) := by
  refine returnsInHanded_of_change (C := Try.checked) Try.own started (by kernel_rfl) Try.func12
    (ChangeSpec.witness6 (enc := enc) (C := Try.checked) false ⟨#[], #[.slice none 0 0], []⟩ 8 (by kernel_rfl) (by kernel_rfl) (by kernel_rfl) (by kernel_rfl)) ?_
  intro W base args ds gs before hval0 hW _ _
  have hval : ∀ (j : Nat) t v, Try.f12.params[j]? = some t → args[j]? = some v → Value.okWide Try.prog W .any base t v := hval0
  have hW' := hW
  obtain ⟨p, q, hA0, hV, rfl, _, _⟩ := hW
  have hA : DataW.TrodAll enc Try.prog W 0 (fun _ => true) true Try.f12.params.toList args.toList ds p := hA0
  rw [Try.params12] at hA hval
  obtain ⟨v0, d0, rfl, rfl, h0⟩ := trodAll_one hA
  obtain ⟨rfl, rfl⟩ := trodVars_none hV
  obtain ⟨aC, eC, kC, rfl⟩ := okWide_slice Try.underlying22 (hval 0 22 v0 rfl rfl)
  clear hA0 hval0
  simp only [List.append_nil] at hW'
  have hlt0 : ∀ x ∈ p, x.block < W.heap.size := fun x hx => by simpa using hW'.lt x (by simp [hx])
  obtain ⟨lC, rfl, mC, zC, cC⟩ := open_bytes h0
  refine (fnUnder_all aC kC lC W mC zC cC).mono fun e W' ⟨he, hb⟩ => ?_
  subst he
  refine ⟨_, rfl, _, _, _, [], _, [], hW', trodAll_mk1 (shut_bool Try.underlying4 _), trodAll_mk1 (Below.trod Try.laidOut (by kernel_rfl) (of_decide_eq_true (by kernel_rfl)) h0 hb hlt0), rfl, hb.frame _, fun h => by cases h⟩

theorem fnUnder_holds : Rows.FnUnderSaid :=
  OpenClaim.holds_of_wide 12 Try.f12 rfl rfl rfl rfl rfl rfl rfl ⟨rfl, rfl, rfl, rfl, rfl⟩ rfl rfl rfl rfl rfl (by kernel_rfl) Try.func12 (by kernel_rfl)
    (of_decide_eq_true (by kernel_rfl)) (by unfold Func.isWrapper; first | (rw [if_pos (by decide +kernel)]; kernel_rfl) | (rw [if_neg (by decide +kernel)]; exact ⟨rfl, rfl⟩))
    (fun os started H enc _ => fnUnder_lifted os started H enc)

end Go.Proofs.Ytdhnklaflbaeeaa
