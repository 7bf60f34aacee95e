/-
  For every slice of bytes the law FnName returns true, and the slice reads behind the call as it read before. No condition.
-/
import Derived.Test.YtdhnklaflbaeeaaNameM
import Derived.Test.YtdhnklaflbaeeaaIs
import Derived.Test.YtdhnklaflbaeeaaDraw
import Derived.Test.YtdhnklaflbaeeaaLaws
namespace Go.Proofs.Ytdhnklaflbaeeaa
open Go.ChangeShapes Go.WideShapes Go.ChangeAt Go.RowKit

set_option maxRecDepth 100000 in
set_option maxHeartbeats 4000000 in
theorem fnName_all (aC : Option Addr) (kC : Nat) (lC : List UInt8) (w : World) (mC : lC.length ≤ maxLen) (zC : lC.length ≤ kC) (cC : CellsAt w aC (lC.map byteV)) :
    Calls Try.prog 4 #[.slice aC lC.length kC] w fun e w' => e = .returned (.bool true) ∧ Below w.heap.size w w' := by
  have mC2 := mC
  clear mC2
  by_cases dC : lC.length ≤ 1048576
  · have hdC : decide (1048576 < (lC.length : Int)) = false := by rw [decide_eq_false_iff_not]; omega
    go_enter Try.func4, Try.ntmps4
    go_wp2_with fail
    refine (drawPlanName_any _ _ _ _ zC dC cC).mono ?_
    rintro e w1 ⟨⟨roP, rcP, lP, hsm, rfl, c_P⟩, hb⟩
    have hB := hb
    clear hb
    have LP : lP.length ≤ 1048576 := by have := hsm.2.1; omega
    have SP : ∀ s ∈ lP, s.size ≤ 1048576 := fun s h => by have := hsm.2.2 s h; omega
    cases hp : doneB lP
    · -- none
      have HI := Lib.hid (fun w c => implPlanName_any roP rcP lP w LP SP c)
      have HS := Lib.hid (fun w c => specPlanName_any roP rcP lP w LP SP c)
      rw [hp, orNone_no rfl] at HI HS
      go_wp2_with fail
      refine (HI.out _ c_P).mono ?_
      rintro e w2 ⟨⟨roO, rcO, rfl, ow⟩, hb⟩
      replace c_P := c_P.below hb
      replace hB := below_step hB hB.size hb
      clear hb
      have c_O := owns_cells ow
      clear ow
      go_wp2_with fail
      refine (HS.out _ c_P).mono ?_
      rintro e w3 ⟨⟨roW, rcW, rfl, ow⟩, hb⟩
      replace c_P := c_P.below hb
      replace c_O := c_O.below hb
      replace hB := below_step hB hB.size hb
      clear hb
      have c_W := owns_cells ow
      clear ow
      go_wp2_with fail
      refine (sameTexts_any _ _ _ _ _ _ [] [] _ rfl rfl (by exact Nat.zero_le _) c_O c_W).mono ?_
      rw [eqS_self]
      rintro e w4 ⟨rfl, hq⟩
      have hb := quiet_below hq
      clear hq
      replace c_P := c_P.below hb
      replace c_O := c_O.below hb
      replace c_W := c_W.below hb
      replace hB := below_step hB hB.size hb
      clear hb
      go_wp2_with fail
      refine (sameTexts_any _ _ _ _ _ _ [] [] _ rfl rfl (by exact Nat.zero_le _) c_O c_W).mono ?_
      rw [eqS_self]
      rintro e w5 ⟨rfl, hq⟩
      have hb := quiet_below hq
      clear hq
      replace c_P := c_P.below hb
      replace c_O := c_O.below hb
      replace c_W := c_W.below hb
      replace hB := below_step hB hB.size hb
      clear hb
      go_wp2
      go_ret
      exact ⟨rfl, hB⟩
    · -- a plan
      have HI := Lib.hid (fun w c => implPlanName_any roP rcP lP w LP SP c)
      have HS := Lib.hid (fun w c => specPlanName_any roP rcP lP w LP SP c)
      rw [hp, orNone_yes rfl] at HI HS
      obtain ⟨pO, hlen, hwide⟩ := name_dims hp
      obtain ⟨nO, dO⟩ := name_self pO
      have LO := plan_small pO
      have HX := Lib.hid (fun ro rc w c => implPlanName_any ro rc (namesB lP) w LO.1 LO.2 c)
      rw [dO, orNone_yes rfl, nO] at HX
      have HP := Lib.hid (fun ro rc w c => implPlanIn_any ro rc (namesB lP) w LO.1 LO.2 c)
      rw [readOk_eq, pO] at HP
      have h0P : 0 < lP.length := by have := (planP_of pO).grid.h1; omega
      have LO1 := LO.1
      clear LO nO dO pO
      have hsz : (((namesB lP).getD 0 ByteArray.empty).size : Int) = ((lP.getD 0 ByteArray.empty).size : Int) := by have : ((namesB lP).getD 0 ByteArray.empty).size = (lP.getD 0 ByteArray.empty).size := hwide; rw [this]
      clear hwide
      generalize namesB lP = O at *
      have HLEN := Lib.hid hlen; have HSZ := Lib.hid hsz; clear hlen hsz
      go_wp2_with fail
      refine (HI.out _ c_P).mono ?_
      rintro e w6 ⟨⟨roO, rcO, rfl, ow⟩, hb⟩
      replace c_P := c_P.below hb
      replace hB := below_step hB hB.size hb
      clear hb
      have c_O := owns_cells ow
      clear ow
      go_wp2_with fail
      refine (HS.out _ c_P).mono ?_
      rintro e w7 ⟨⟨roW, rcW, rfl, ow⟩, hb⟩
      replace c_P := c_P.below hb
      replace c_O := c_O.below hb
      replace hB := below_step hB hB.size hb
      clear hb
      have c_W := owns_cells ow
      clear ow
      go_wp2_with fail
      refine (sameTexts_any _ _ _ _ _ _ O O _ rfl rfl (by unfold maxLen; omega) c_O c_W).mono ?_
      rw [eqS_self]
      rintro e w8 ⟨rfl, hq⟩
      have hb := quiet_below hq
      clear hq
      replace c_P := c_P.below hb
      replace c_O := c_O.below hb
      replace c_W := c_W.below hb
      replace hB := below_step hB hB.size hb
      clear hb
      go_wp2_with fail
      refine (HX.out _ _ _ c_O).mono ?_
      rintro e w9 ⟨⟨roX, rcX, rfl, ow⟩, hb⟩
      replace c_P := c_P.below hb
      replace c_O := c_O.below hb
      replace c_W := c_W.below hb
      replace hB := below_step hB hB.size hb
      clear hb
      have c_X := owns_cells ow
      clear ow
      have hlen := HLEN.out; have hsz := HSZ.out
      have h0O : 0 < O.length := by omega
      obtain ⟨bP, oP, rfl, kP⟩ := c_P.str 0 h0P
      obtain ⟨bO, oO, rfl, kO⟩ := c_O.str 0 h0O
      rw [Nat.add_zero] at kP kO
      have HC1 := Lib.hid (fun (d : Nat) (os : Array Obj) => Calls.regrown_of ((sameTexts_any roX _ rcX rcO _ _ O O (Sort.grow (redrawn w9 d) os) rfl rfl (by unfold maxLen; omega) (c_X.below (below_regrown w9 d os)) (c_O.below (below_regrown w9 d os))).mono (fun e w' h => (show e = .returned (.bool true) ∧ Below _ _ w' from ⟨by rw [h.1, eqS_self], quiet_below h.2⟩))))
      have HC2 := Lib.hid (fun (d : Nat) (os : Array Obj) => Calls.regrown_of (HP.out _ rcO (Sort.grow (redrawn w9 d) os) (c_O.below (below_regrown w9 d os))))
      have qP : ∀ r : Regrown, (Sort.grow (redrawn w9 r.d) r.os).cell? ⟨bP, oP, none⟩ = some (.string (lP.getD 0 ByteArray.empty)) := fun r => cell_regrown kP r.d r.os
      have qO : ∀ r : Regrown, (Sort.grow (redrawn w9 r.d) r.os).cell? ⟨bO, oO, none⟩ = some (.string (O.getD 0 ByteArray.empty)) := fun r => cell_regrown kO r.d r.os
      have HQP := Lib.hid qP; have HQO := Lib.hid qO; clear qP qO
      clear kP kO c_P c_O c_W c_X
      generalize lP.getD 0 ByteArray.empty = sP at *
      generalize O.getD 0 ByteArray.empty = sO at *
      have i1 : (0 : Int) < (O.length : Int) := by omega
      have i2 : (0 : Int) < (lP.length : Int) := by omega
      have g1 : ((O.length : Int) == (lP.length : Int)) = true := by rw [beq_iff_eq]; omega
      have g2 : ((sO.size : Int) == (sP.size : Int)) = true := by rw [beq_iff_eq]; exact hsz
      clear hlen hsz
      go_wp2
      have qP := HQP.out; have qO := HQO.out
      refine wp_region_quiet_below (by kernel_rfl) (by kernel_rfl) ?_
      repeat (first | go_big_quiet_step (with_reducible first | exact HC1.out _ _ | exact HC2.out _ _) | quiet_step (with_reducible first | exact HC1.out _ _ | exact HC2.out _ _))
      refine wpQuiet_nil ?_
      rintro _ ⟨r, rfl⟩
      have hb7 := below_regrown w9 r.d r.os
      generalize Sort.grow (redrawn w9 r.d) r.os = W7 at *
      go_wp2
      go_ret
      exact ⟨rfl, below_step hB hB.size hb7⟩
  · have hdC : decide (1048576 < (lC.length : Int)) = true := by rw [decide_eq_true_eq]; omega
    go_enter Try.func4, Try.ntmps4
    go_wp2
    go_ret
    exact ⟨rfl, Below.refl _ _⟩

set_option maxRecDepth 100000 in
theorem fnName_lifted (os : Os) (started : os.Started) (H : Type) (enc : TypeId × Value → H) :
    ReturnsInHanded {} Try.checked os 4 .any (Rows.fnNameSpec.pre6 enc Try.prog Try.f4 Rows.fnNameRow.domain false) (Rows.fnNameSpec.post enc Try.prog Try.f4 false true false false) := by
  refine returnsInHanded_of_change (C := Try.checked) Try.own started (by kernel_rfl) Try.func4
    (ChangeSpec.witness6 (enc := enc) (C := Try.checked) false ⟨#[], #[.slice none 0 0], []⟩ 8 (by kernel_rfl) (by kernel_rfl) (by kernel_rfl) (by kernel_rfl)) ?_
  intro W base args ds gs before hval0 hW _ _
  have hval : ∀ (j : Nat) t v, Try.f4.params[j]? = some t → args[j]? = some v → Value.okWide Try.prog W .any base t v := hval0
  have hW' := hW
  obtain ⟨p, q, hA0, hV, rfl, _, _⟩ := hW
  have hA : DataW.TrodAll enc Try.prog W 0 (fun _ => true) true Try.f4.params.toList args.toList ds p := hA0
  rw [Try.params4] at hA hval
  obtain ⟨v0, d0, rfl, rfl, h0⟩ := trodAll_one hA
  obtain ⟨rfl, rfl⟩ := trodVars_none hV
  obtain ⟨aC, eC, kC, rfl⟩ := okWide_slice Try.underlying22 (hval 0 22 v0 rfl rfl)
  clear hA0 hval0
  simp only [List.append_nil] at hW'
  have hlt0 : ∀ x ∈ p, x.block < W.heap.size := fun x hx => by simpa using hW'.lt x (by simp [hx])
  obtain ⟨lC, rfl, mC, zC, cC⟩ := open_bytes h0
  refine (fnName_all aC kC lC W mC zC cC).mono fun e W' ⟨he, hb⟩ => ?_
  subst he
  refine ⟨_, rfl, _, _, _, [], _, [], hW', trodAll_mk1 (shut_bool Try.underlying4 _), trodAll_mk1 (Below.trod Try.laidOut (by kernel_rfl) (of_decide_eq_true (by kernel_rfl)) h0 hb hlt0), rfl, hb.frame _, fun h => by cases h⟩

theorem fnName_holds : Rows.FnNameSaid :=
  OpenClaim.holds_of_wide 4 Try.f4 rfl rfl rfl rfl rfl rfl rfl ⟨rfl, rfl, rfl, rfl, rfl⟩ rfl rfl rfl rfl rfl (by kernel_rfl) Try.func4 (by kernel_rfl)
    (of_decide_eq_true (by kernel_rfl)) (by unfold Func.isWrapper; first | (rw [if_pos (by decide +kernel)]; kernel_rfl) | (rw [if_neg (by decide +kernel)]; exact ⟨rfl, rfl⟩))
    (fun os started H enc _ => fnName_lifted os started H enc)

end Go.Proofs.Ytdhnklaflbaeeaa
