/-
  For every slice of bytes the law FnTurn returns true, and the slice reads behind the call as it read before. No condition.
-/
import Derived.Test.YtdhnklaflbaeeaaPerm
import Derived.Test.YtdhnklaflbaeeaaDraw
import Derived.Test.YtdhnklaflbaeeaaLaws
namespace Go.Proofs.Ytdhnklaflbaeeaa
open Go.ChangeShapes Go.WideShapes Go.ChangeAt Go.RowKit

set_option maxRecDepth 100000 in
set_option maxHeartbeats 4000000 in
theorem fnTurn_all (aC : Option Addr) (kC : Nat) (lC : List UInt8) (w : World) (mC : lC.length ≤ maxLen) (zC : lC.length ≤ kC) (cC : CellsAt w aC (lC.map byteV)) :
    Calls Try.prog 7 #[.slice aC lC.length kC] w fun e w' => e = .returned (.bool true) ∧ Below w.heap.size w w' := by
  have mC2 := mC
  clear mC2
  by_cases dC : lC.length ≤ 1048576
  · have hdC : decide (1048576 < (lC.length : Int)) = false := by rw [decide_eq_false_iff_not]; omega
    go_enter Try.func7, Try.ntmps7
    go_wp2_with fail
    refine (drawPlanTurn_any _ _ _ _ zC dC cC).mono ?_
    rintro e w1 ⟨⟨roP, rcP, lP, hsm, rfl, c_P⟩, hb⟩
    have hB := hb
    clear hb
    have LP : lP.length ≤ 1048576 := by have := hsm.2.1; omega
    have SP : ∀ s ∈ lP, s.size ≤ 1048576 := fun s h => by have := hsm.2.2 s h; omega
    cases hp : planB lP
    · -- no plan
      have HI := Lib.hid (fun w c => implTurn_any roP rcP lP w LP SP c)
      have HS := Lib.hid (fun w c => specTurn_any roP rcP lP w LP SP c)
      rw [hp, orNone_no rfl] at HI HS
      go_wp2_with fail
      refine (HI.out _ c_P).mono ?_
      rintro e w2 ⟨⟨roO, rcO, rfl, ow⟩, hb⟩
      replace c_P := c_P.below hb
      replace hB := below_step hB hB.size hb
      clear hb
      have c_O := owns_cells ow
      clear ow
      go_wp2_with fail
      refine (HS.out _ c_P).mono ?_
      rintro e w3 ⟨⟨roW, rcW, rfl, ow⟩, hb⟩
      replace c_P := c_P.below hb
      replace c_O := c_O.below hb
      replace hB := below_step hB hB.size hb
      clear hb
      have c_W := owns_cells ow
      clear ow
      go_wp2_with fail
      refine (sameTexts_any _ _ _ _ _ _ [] [] _ rfl rfl (by exact Nat.zero_le _) c_O c_W).mono ?_
      rw [eqS_self]
      rintro e w4 ⟨rfl, hq⟩
      have hb := quiet_below hq
      clear hq
      replace c_P := c_P.below hb
      replace c_O := c_O.below hb
      replace c_W := c_W.below hb
      replace hB := below_step hB hB.size hb
      clear hb
      go_wp2_with fail
      refine (sameTexts_any _ _ _ _ _ _ [] [] _ rfl rfl (by exact Nat.zero_le _) c_O c_W).mono ?_
      rw [eqS_self]
      rintro e w5 ⟨rfl, hq⟩
      have hb := quiet_below hq
      clear hq
      replace c_P := c_P.below hb
      replace c_O := c_O.below hb
      replace c_W := c_W.below hb
      replace hB := below_step hB hB.size hb
      clear hb
      go_wp2
      go_ret
      exact ⟨rfl, hB⟩
    · -- a plan
      have HI := Lib.hid (fun w c => implTurn_any roP rcP lP w LP SP c)
      have HS := Lib.hid (fun w c => specTurn_any roP rcP lP w LP SP c)
      rw [hp, orNone_yes rfl] at HI HS
      have E4 := turn_four hp
      have pO := (is_turn hp).plan
      have pX := (is_turn pO).plan
      have pY := (is_turn pX).plan
      have LO := plan_small pO; have LX := plan_small pX; have LY := plan_small pY
      have HX := Lib.hid (fun ro rc w c => implTurn_any ro rc (namesB (turnB lP)) w LO.1 LO.2 c)
      rw [pO, orNone_yes rfl] at HX
      have HY := Lib.hid (fun ro rc w c => implTurn_any ro rc (namesB (turnB (namesB (turnB lP)))) w LX.1 LX.2 c)
      rw [pX, orNone_yes rfl] at HY
      have HZ := Lib.hid (fun ro rc w c => implTurn_any ro rc (namesB (turnB (namesB (turnB (namesB (turnB lP)))))) w LY.1 LY.2 c)
      rw [pY, orNone_yes rfl] at HZ
      rw [E4] at HZ
      have HM := Lib.hid (fun w c => implAreas_any roP rcP lP w LP SP c)
      have HN := Lib.hid (fun ro rc w c => implAreas_any ro rc (namesB (turnB lP)) w LO.1 LO.2 c)
      rw [hp] at HM
      rw [pO] at HN
      have HPE := Lib.hid (areas_turn hp)
      have nP := areas_len hp; have nO := areas_len pO
      have m1 : 1 ≤ (areasOr lP).length ∧ (areasOr lP).length ≤ 100 := by omega
      have n1 : 1 ≤ (areasOr (namesB (turnB lP))).length ∧ (areasOr (namesB (turnB lP))).length ≤ 100 := by omega
      have LO1 := LO.1
      clear nP nO E4 pO pX pY LO LX LY
      generalize namesB (turnB (namesB (turnB (namesB (turnB lP))))) = Y at *
      generalize namesB (turnB (namesB (turnB lP))) = X at *
      generalize namesB (turnB lP) = O at *
      generalize areasOr lP = M at *
      generalize areasOr O = R at *
      go_wp2_with fail
      refine (HI.out _ c_P).mono ?_
      rintro e w6 ⟨⟨roO, rcO, rfl, ow⟩, hb⟩
      replace c_P := c_P.below hb
      replace hB := below_step hB hB.size hb
      clear hb
      have c_O := owns_cells ow
      clear ow
      go_wp2_with fail
      refine (HS.out _ c_P).mono ?_
      rintro e w7 ⟨⟨roW, rcW, rfl, ow⟩, hb⟩
      replace c_P := c_P.below hb
      replace c_O := c_O.below hb
      replace hB := below_step hB hB.size hb
      clear hb
      have c_W := owns_cells ow
      clear ow
      go_wp2_with fail
      refine (sameTexts_any _ _ _ _ _ _ O O _ rfl rfl (by unfold maxLen; omega) c_O c_W).mono ?_
      rw [eqS_self]
      rintro e w8 ⟨rfl, hq⟩
      have hb := quiet_below hq
      clear hq
      replace c_P := c_P.below hb
      replace c_O := c_O.below hb
      replace c_W := c_W.below hb
      replace hB := below_step hB hB.size hb
      clear hb
      go_wp2_with fail
      refine (HX.out _ _ _ c_O).mono ?_
      rintro e w9 ⟨⟨roX, rcX, rfl, ow⟩, hb⟩
      replace c_P := c_P.below hb
      replace c_O := c_O.below hb
      replace c_W := c_W.below hb
      replace hB := below_step hB hB.size hb
      clear hb
      have c_X := owns_cells ow
      clear ow
      go_wp2_with fail
      refine (HY.out _ _ _ c_X).mono ?_
      rintro e w10 ⟨⟨roY, rcY, rfl, ow⟩, hb⟩
      replace c_P := c_P.below hb
      replace c_O := c_O.below hb
      replace c_W := c_W.below hb
      replace c_X := c_X.below hb
      replace hB := below_step hB hB.size hb
      clear hb
      have c_Y := owns_cells ow
      clear ow
      go_wp2_with fail
      refine (HZ.out _ _ _ c_Y).mono ?_
      rintro e w11 ⟨⟨roZ, rcZ, rfl, ow⟩, hb⟩
      replace c_P := c_P.below hb
      replace c_O := c_O.below hb
      replace c_W := c_W.below hb
      replace c_X := c_X.below hb
      replace c_Y := c_Y.below hb
      replace hB := below_step hB hB.size hb
      clear hb
      have c_Z := owns_cells ow
      clear ow
      go_wp2_with fail
      refine (HM.out _ c_P).mono ?_
      rintro e w12 ⟨⟨roM, rcM, rfl, ow⟩, hb⟩
      replace c_P := c_P.below hb
      replace c_O := c_O.below hb
      replace c_W := c_W.below hb
      replace c_X := c_X.below hb
      replace c_Y := c_Y.below hb
      replace c_Z := c_Z.below hb
      replace hB := below_step hB hB.size hb
      clear hb
      have c_M := owns_cells ow
      clear ow
      go_wp2_with fail
      refine (HN.out _ _ _ c_O).mono ?_
      rintro e w13 ⟨⟨roN, rcN, rfl, ow⟩, hb⟩
      replace c_P := c_P.below hb
      replace c_O := c_O.below hb
      replace c_W := c_W.below hb
      replace c_X := c_X.below hb
      replace c_Y := c_Y.below hb
      replace c_Z := c_Z.below hb
      replace c_M := c_M.below hb
      replace hB := below_step hB hB.size hb
      clear hb
      have c_N := owns_cells ow
      clear ow
      go_wp2_with fail
      refine (sameTexts_any _ _ _ _ _ _ lP lP _ rfl rfl (by unfold maxLen; omega) c_Z c_P).mono ?_
      rw [eqS_self]
      rintro e w14 ⟨rfl, hq⟩
      have hb := quiet_below hq
      clear hq
      replace c_P := c_P.below hb
      replace c_O := c_O.below hb
      replace c_W := c_W.below hb
      replace c_X := c_X.below hb
      replace c_Y := c_Y.below hb
      replace c_Z := c_Z.below hb
      replace c_M := c_M.below hb
      replace c_N := c_N.below hb
      replace hB := below_step hB hB.size hb
      clear hb
      go_wp2_with fail
      refine (sorted_any _ _ M _ m1.1 m1.2 c_M).mono ?_
      rintro e w15 ⟨roS, rcS, sS, rfl, cS, pS, oS, hb⟩
      replace c_P := c_P.below hb
      replace c_O := c_O.below hb
      replace c_W := c_W.below hb
      replace c_X := c_X.below hb
      replace c_Y := c_Y.below hb
      replace c_Z := c_Z.below hb
      replace c_M := c_M.below hb
      replace c_N := c_N.below hb
      replace hB := below_step hB hB.size hb
      clear hb
      have c_S := cS
      clear cS
      go_wp2_with fail
      refine (sorted_any _ _ R _ n1.1 n1.2 c_N).mono ?_
      rintro e w16 ⟨roT, rcT, sT, rfl, cS, pT, oT, hb⟩
      replace c_P := c_P.below hb
      replace c_O := c_O.below hb
      replace c_W := c_W.below hb
      replace c_X := c_X.below hb
      replace c_Y := c_Y.below hb
      replace c_Z := c_Z.below hb
      replace c_M := c_M.below hb
      replace c_N := c_N.below hb
      replace c_S := c_S.below hb
      replace hB := below_step hB hB.size hb
      clear hb
      have c_T := cS
      clear cS
      have hST := sorted_same pS pT HPE.out.symm oS oT
      have hSl : sS.length ≤ maxLen := by rw [pS.length_eq]; unfold maxLen; omega
      clear pS pT oS oT
      subst hST
      go_wp2_with fail
      refine (sameInts_any _ _ _ _ _ _ sS sS _ rfl rfl (by exact hSl) c_S c_T).mono ?_
      rw [eqI_self]
      rintro e w17 ⟨rfl, hq⟩
      have hb := quiet_below hq
      clear hq
      replace c_P := c_P.below hb
      replace c_O := c_O.below hb
      replace c_W := c_W.below hb
      replace c_X := c_X.below hb
      replace c_Y := c_Y.below hb
      replace c_Z := c_Z.below hb
      replace c_M := c_M.below hb
      replace c_N := c_N.below hb
      replace c_S := c_S.below hb
      replace c_T := c_T.below hb
      replace hB := below_step hB hB.size hb
      clear hb
      go_wp2
      go_ret
      exact ⟨rfl, hB⟩
  · have hdC : decide (1048576 < (lC.length : Int)) = true := by rw [decide_eq_true_eq]; omega
    go_enter Try.func7, Try.ntmps7
    go_wp2
    go_ret
    exact ⟨rfl, Below.refl _ _⟩

set_option maxRecDepth 100000 in
theorem fnTurn_lifted (os : Os) (started : os.Started) (H : Type) (enc : TypeId × Value → H) :
    ReturnsInHanded {} Try.checked os 7 .any (Rows.fnTurnSpec.pre6 enc Try.prog Try.f7 Rows.fnTurnRow.domain false) (Rows.fnTurnSpec.post enc Try.prog Try.f7 false true false false) := by
  refine returnsInHanded_of_change (C := Try.checked) Try.own started (by kernel_rfl) Try.func7
    (ChangeSpec.witness6 (enc := enc) (C := Try.checked) false ⟨#[], #[.slice none 0 0], []⟩ 8 (by kernel_rfl) (by kernel_rfl) (by kernel_rfl) (by kernel_rfl)) ?_
  intro W base args ds gs before hval0 hW _ _
  have hval : ∀ (j : Nat) t v, Try.f7.params[j]? = some t → args[j]? = some v → Value.okWide Try.prog W .any base t v := hval0
  have hW' := hW
  obtain ⟨p, q, hA0, hV, rfl, _, _⟩ := hW
  have hA : DataW.TrodAll enc Try.prog W 0 (fun _ => true) true Try.f7.params.toList args.toList ds p := hA0
  rw [Try.params7] at hA hval
  obtain ⟨v0, d0, rfl, rfl, h0⟩ := trodAll_one hA
  obtain ⟨rfl, rfl⟩ := trodVars_none hV
  obtain ⟨aC, eC, kC, rfl⟩ := okWide_slice Try.underlying22 (hval 0 22 v0 rfl rfl)
  clear hA0 hval0
  simp only [List.append_nil] at hW'
  have hlt0 : ∀ x ∈ p, x.block < W.heap.size := fun x hx => by simpa using hW'.lt x (by simp [hx])
  obtain ⟨lC, rfl, mC, zC, cC⟩ := open_bytes h0
  refine (fnTurn_all aC kC lC W mC zC cC).mono fun e W' ⟨he, hb⟩ => ?_
  subst he
  refine ⟨_, rfl, _, _, _, [], _, [], hW', trodAll_mk1 (shut_bool Try.underlying4 _), trodAll_mk1 (Below.trod Try.laidOut (by kernel_rfl) (of_decide_eq_true (by kernel_rfl)) h0 hb hlt0), rfl, hb.frame _, fun h => by cases h⟩

theorem fnTurn_holds : Rows.FnTurnSaid :=
  OpenClaim.holds_of_wide 7 Try.f7 rfl rfl rfl rfl rfl rfl rfl ⟨rfl, rfl, rfl, rfl, rfl⟩ rfl rfl rfl rfl rfl (by kernel_rfl) Try.func7 (by kernel_rfl)
    (of_decide_eq_true (by kernel_rfl)) (by unfold Func.isWrapper; first | (rw [if_pos (by decide +kernel)]; kernel_rfl) | (rw [if_neg (by decide +kernel)]; exact ⟨rfl, rfl⟩))
    (fun os started H enc _ => fnTurn_lifted os started H enc)

end Go.Proofs.Ytdhnklaflbaeeaa
