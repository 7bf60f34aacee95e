
/-
  For every slice of bytes the law FnTrans returns true, and the slice reads behind the call as it read before. No condition.
-/
import Derived.Test.YtdhnklaflbaeeaaIs
import Derived.Test.YtdhnklaflbaeeaaDraw
import Derived.Test.YtdhnklaflbaeeaaLaws
namespace Go.Proofs.Ytdhnklaflbaeeaa
open Go.ChangeShapes Go.WideShapes Go.ChangeAt Go.RowKit

set_option maxRecDepth 100000 in
set_option maxHeartbeats 4000000 in
theorem fnTrans_all (aC : Option Addr) (kC : Nat) (lC : List UInt8) (w : World) (mC : lC.length ≤ maxLen) (zC : lC.length ≤ kC) (cC : CellsAt w aC (lC.map byteV)) :
    Calls Try.prog 15 #[.slice aC lC.length kC] w fun e w' => e = .returned (.bool true) ∧ Below w.heap.size w w' := by
  have mC2 := mC
  clear mC2
  by_cases dC : lC.length ≤ 1048576
  · have hdC : decide (1048576 < (lC.length : Int)) = false := by rw [decide_eq_false_iff_not]; omega
    go_enter Try.func15, Try.ntmps15
    go_wp2_with fail
    refine (drawPlanTrans_any _ _ _ _ zC dC cC).mono ?_
    rintro e w1 ⟨⟨roP, rcP, lP, hsm, rfl, c_P⟩, hb⟩
    have hB := hb
    clear hb
    have LP : lP.length ≤ 1048576 := by have := hsm.2.1; omega
    have SP : ∀ s ∈ lP, s.size ≤ 1048576 := fun s h => by have := hsm.2.2 s h; omega
    cases hp : planB lP
    · -- no plan
      have HI := Lib.hid (fun w c => implTrans_any roP rcP lP w LP SP c)
      have HS := Lib.hid (fun w c => specTrans_any roP rcP lP w LP SP c)
      rw [hp, orNone_no rfl] at HI HS
      go_wp2_with fail
      refine (HI.out _ c_P).mono ?_
      rintro e w2 ⟨⟨roO, rcO, rfl, ow⟩, hb⟩
      replace c_P := c_P.below hb
      replace hB := below_step hB hB.size hb
      clear hb
      have c_O := owns_cells ow
      clear ow
      go_wp2_with fail
      refine (HS.out _ c_P).mono ?_
      rintro e w3 ⟨⟨roW, rcW, rfl, ow⟩, hb⟩
      replace c_P := c_P.below hb
      replace c_O := c_O.below hb
      replace hB := below_step hB hB.size hb
      clear hb
      have c_W := owns_cells ow
      clear ow
      go_wp2_with fail
      refine (sameTexts_any _ _ _ _ _ _ [] [] _ rfl rfl (Nat.zero_le _) c_O c_W).mono ?_
      rw [eqS_self]
      rintro e w4 ⟨rfl, hq⟩
      have hb := quiet_below hq
      clear hq
      replace c_P := c_P.below hb
      replace c_O := c_O.below hb
      replace c_W := c_W.below hb
      replace hB := below_step hB hB.size hb
      clear hb
      go_wp2_with fail
      refine (sameTexts_any _ _ _ _ _ _ [] [] _ rfl rfl (Nat.zero_le _) c_O c_W).mono ?_
      rw [eqS_self]
      rintro e w5 ⟨rfl, hq⟩
      have hb := quiet_below hq
      clear hq
      replace c_P := c_P.below hb
      replace c_O := c_O.below hb
      replace c_W := c_W.below hb
      replace hB := below_step hB hB.size hb
      clear hb
      go_wp2
      go_ret
      exact ⟨rfl, hB⟩
    · -- a plan
      have HO := Lib.hid (is_trans hp).plan
      have HT := Lib.hid (is_turn hp).plan
      have E1 := Lib.hid (trans_two hp)
      have E2 := Lib.hid (turn_flip hp)
      have HI := Lib.hid (fun w c => implTrans_any roP rcP lP w LP SP c)
      have HS := Lib.hid (fun w c => specTrans_any roP rcP lP w LP SP c)
      have HU := Lib.hid (fun w c => implTurn_any roP rcP lP w LP SP c)
      rw [hp, orNone_yes rfl] at HI HS HU
      have LO := plan_small HO.out
      have LT := plan_small HT.out
      have HX := Lib.hid (fun ro rc w c => implTrans_any ro rc (namesB (transB lP)) w LO.1 LO.2 c)
      have HG := Lib.hid (fun ro rc w c => implFlip_any ro rc (namesB (turnB lP)) w LT.1 LT.2 c)
      rw [HO.out, orNone_yes rfl, E1.out] at HX
      rw [HT.out, orNone_yes rfl, E2.out] at HG
      clear E1 E2
      generalize namesB (transB lP) = O at *
      generalize namesB (turnB lP) = T at *
      have LO1 := LO.1
      clear LO LT
      go_wp2_with fail
      refine (HI.out _ c_P).mono ?_
      rintro e w6 ⟨⟨roO, rcO, rfl, ow⟩, hb⟩
      replace c_P := c_P.below hb
      replace hB := below_step hB hB.size hb
      clear hb
      have c_O := owns_cells ow
      clear ow
      go_wp2_with fail
      refine (HS.out _ c_P).mono ?_
      rintro e w7 ⟨⟨roW, rcW, rfl, ow⟩, hb⟩
      replace c_P := c_P.below hb
      replace c_O := c_O.below hb
      replace hB := below_step hB hB.size hb
      clear hb
      have c_W := owns_cells ow
      clear ow
      go_wp2_with fail
      refine (sameTexts_any _ _ _ _ _ _ O O _ rfl rfl (by unfold maxLen; omega) c_O c_W).mono ?_
      rw [eqS_self]
      rintro e w8 ⟨rfl, hq⟩
      have hb := quiet_below hq
      clear hq
      replace c_P := c_P.below hb
      replace c_O := c_O.below hb
      replace c_W := c_W.below hb
      replace hB := below_step hB hB.size hb
      clear hb
      go_wp2_with fail
      refine (HX.out _ _ _ c_O).mono ?_
      rintro e w9 ⟨⟨roX, rcX, rfl, ow⟩, hb⟩
      replace c_P := c_P.below hb
      replace c_O := c_O.below hb
      replace c_W := c_W.below hb
      replace hB := below_step hB hB.size hb
      clear hb
      have c_X := owns_cells ow
      clear ow
      go_wp2_with fail
      refine (HU.out _ c_P).mono ?_
      rintro e w10 ⟨⟨roT, rcT, rfl, ow⟩, hb⟩
      replace c_P := c_P.below hb
      replace c_O := c_O.below hb
      replace c_W := c_W.below hb
      replace c_X := c_X.below hb
      replace hB := below_step hB hB.size hb
      clear hb
      have c_T := owns_cells ow
      clear ow
      go_wp2_with fail
      refine (HG.out _ _ _ c_T).mono ?_
      rintro e w11 ⟨⟨roG, rcG, rfl, ow⟩, hb⟩
      replace c_P := c_P.below hb
      replace c_O := c_O.below hb
      replace c_W := c_W.below hb
      replace c_X := c_X.below hb
      replace c_T := c_T.below hb
      replace hB := below_step hB hB.size hb
      clear hb
      have c_G := owns_cells ow
      clear ow
      go_wp2_with fail
      refine (sameTexts_any _ _ _ _ _ _ lP lP _ rfl rfl (by unfold maxLen; omega) c_X c_P).mono ?_
      rw [eqS_self]
      rintro e w12 ⟨rfl, hq⟩
      have hb := quiet_below hq
      clear hq
      replace c_P := c_P.below hb
      replace c_O := c_O.below hb
      replace c_W := c_W.below hb
      replace c_X := c_X.below hb
      replace c_T := c_T.below hb
      replace c_G := c_G.below hb
      replace hB := below_step hB hB.size hb
      clear hb
      go_wp2_with fail
      refine (sameTexts_any _ _ _ _ _ _ O O _ rfl rfl (by unfold maxLen; omega) c_G c_O).mono ?_
      rw [eqS_self]
      rintro e w13 ⟨rfl, hq⟩
      have hb := quiet_below hq
      clear hq
      replace c_P := c_P.below hb
      replace c_O := c_O.below hb
      replace c_W := c_W.below hb
      replace c_X := c_X.below hb
      replace c_T := c_T.below hb
      replace c_G := c_G.below hb
      replace hB := below_step hB hB.size hb
      clear hb
      go_wp2
      go_ret
      exact ⟨rfl, hB⟩
  · have hdC : decide (1048576 < (lC.length : Int)) = true := by rw [decide_eq_true_eq]; omega
    go_enter Try.func15, Try.ntmps15
    go_wp2
    go_ret
    exact ⟨rfl, Below.refl _ _⟩

set_option maxRecDepth 100000 in
theorem fnTrans_lifted (os : Os) (started : os.Started) (H : Type) (enc : TypeId × Value → H) :
    ReturnsInHanded {} Try.checked os 15 .any (Rows.fnTransSpec.pre6 enc Try.prog Try.f15 Rows.fnTransRow.domain false) (Rows.fnTransSpec.post enc Try.prog Try.f15 false true false false) := by
  refine returnsInHanded_of_change (C := Try.checked) Try.own started (by kernel_rfl) Try.func15
    (ChangeSpec.witness6 (enc := enc) (C := Try.checked) false ⟨#[], #[.slice none 0 0], []⟩ 8 (by kernel_rfl) (by kernel_rfl) (by kernel_rfl) (by kernel_rfl)) ?_
  intro W base args ds gs before hval0 hW _ _
  have hval : ∀ (j : Nat) t v, Try.f15.params[j]? = some t → args[j]? = some v → Value.okWide Try.prog W .any base t v := hval0
  have hW' := hW
  obtain ⟨p, q, hA0, hV, rfl, _, _⟩ := hW
  have hA : DataW.TrodAll enc Try.prog W 0 (fun _ => true) true Try.f15.params.toList args.toList ds p := hA0
  rw [Try.params15] at hA hval
  obtain ⟨v0, d0, rfl, rfl, h0⟩ := trodAll_one hA
  obtain ⟨rfl, rfl⟩ := trodVars_none hV
  obtain ⟨aC, eC, kC, rfl⟩ := okWide_slice Try.underlying22 (hval 0 22 v0 rfl rfl)
  clear hA0 hval0
  simp only [List.append_nil] at hW'
  have hlt0 : ∀ x ∈ p, x.block < W.heap.size := fun x hx => by simpa using hW'.lt x (by simp [hx])
  obtain ⟨lC, rfl, mC, zC, cC⟩ := open_bytes h0
  refine (fnTrans_all aC kC lC W mC zC cC).mono fun e W' ⟨he, hb⟩ => ?_
  subst he
  refine ⟨_, rfl, _, _, _, [], _, [], hW', trodAll_mk1 (shut_bool Try.underlying4 _), trodAll_mk1 (Below.trod Try.laidOut (by kernel_rfl) (of_decide_eq_true (by kernel_rfl)) h0 hb hlt0), rfl, hb.frame _, fun h => by cases h⟩

theorem fnTrans_holds : Rows.FnTransSaid :=
  OpenClaim.holds_of_wide 15 Try.f15 rfl rfl rfl rfl rfl rfl rfl ⟨rfl, rfl, rfl, rfl, rfl⟩ rfl rfl rfl rfl rfl (by kernel_rfl) Try.func15 (by kernel_rfl)
    (of_decide_eq_true (by kernel_rfl)) (by unfold Func.isWrapper; first | (rw [if_pos (by decide +kernel)]; kernel_rfl) | (rw [if_neg (by decide +kernel)]; exact ⟨rfl, rfl⟩))
    (fun os started H enc _ => fnTrans_lifted os started H enc)

end Go.Proofs.Ytdhnklaflbaeeaa
