
/-
  For every slice of bytes the law FnPlain returns true, and the slice reads behind the call as it read before. No condition.
-/
import Derived.Test.YtlbdkjhfnjofiaaEuler
import Derived.Test.YtlbdkjhfnjofiaaDrawW
import Derived.Test.YtlbdkjhfnjofiaaTightS
import Derived.Test.YtlbdkjhfnjofiaaDraw
import Derived.Test.YtlbdkjhfnjofiaaLaws
namespace Go.Proofs.Ytlbdkjhfnjofiaa
open Go.ChangeShapes Go.WideShapes Go.ChangeAt Go.RowKit

set_option maxRecDepth 100000 in
set_option maxHeartbeats 4000000 in
theorem fnPlain_all (aC : Option Addr) (kC : Nat) (lC : List UInt8) (w : World) (mC : lC.length ≤ maxLen) (zC : lC.length ≤ kC) (cC : CellsAt w aC (lC.map byteV)) :
    Calls Try.prog 8 #[.slice aC lC.length kC] w fun e w' => e = .returned (.bool true) ∧ Below w.heap.size w w' := by
  have mC2 := mC
  clear mC2
  by_cases dC : lC.length ≤ 1048576
  · have hdC : decide (1048576 < (lC.length : Int)) = false := by rw [decide_eq_false_iff_not]; omega
    go_enter Try.func8, Try.ntmps8
    go_wp2_with fail
    refine (drawWallPlain_any _ _ _ _ zC dC cC).mono ?_
    rintro e w1 ⟨⟨roP, rcP, lP, hsm, rfl, c_P⟩, hb⟩
    have hB := hb
    clear hb
    have LP : lP.length ≤ 1048576 := by have := hsm.2.1; omega
    have SP : ∀ s ∈ lP, s.size ≤ 1048576 := fun s h => by have := hsm.2.2 s h; omega
    cases hp : (planB lP && decide (meetN lP 4 = 0))
    · -- not plain
      have HI := Lib.hid (fun w c => implWallPlain_any roP rcP lP w LP SP c)
      have HS := Lib.hid (fun w c => specWallPlain_any roP rcP lP w LP SP c)
      rw [hp] at HI HS
      go_wp2_with fail
      refine (HI.out _ c_P).mono ?_
      rintro e w2 ⟨rfl, hb⟩
      replace c_P := c_P.below hb
      replace hB := below_step hB hB.size hb
      clear hb
      go_wp2_with fail
      refine (HS.out _ c_P).mono ?_
      rintro e w3 ⟨rfl, hb⟩
      replace c_P := c_P.below hb
      replace hB := below_step hB hB.size hb
      clear hb
      go_wp2
      go_ret
      exact ⟨rfl, hB⟩
    · -- plain
      have HI := Lib.hid (fun w c => implWallPlain_any roP rcP lP w LP SP c)
      have HS := Lib.hid (fun w c => specWallPlain_any roP rcP lP w LP SP c)
      have HT := Lib.hid (fun w c => implTurn_any roP rcP lP w LP SP c)
      have HG := Lib.hid (fun w c => implTight_any roP rcP lP w LP SP c)
      have HM := Lib.hid (fun w c => implWallMany_any roP rcP lP w LP SP c)
      have HR := Lib.hid (fun w c => implPlanRooms_any roP rcP lP w LP SP c)
      rw [hp] at HI HS
      rw [Bool.and_eq_true, decide_eq_true_eq] at hp
      obtain ⟨hp, h0⟩ := hp
      have hT := (is_turn hp).plan
      have LT := plan_small hT
      have hG := (is_tight hp).plan
      have LG := plan_small hG
      have HX := Lib.hid (fun ro rc w c => implWallPlain_any ro rc (namesB (turnB lP)) w LT.1 LT.2 c)
      have HY := Lib.hid (fun ro rc w c => implWallPlain_any ro rc (tightB lP) w LG.1 LG.2 c)
      rw [cross_turn hp, hT, h0] at HX
      rw [plain_tight hp h0, hG] at HY
      rw [hp] at HT HG HM HR
      rw [orNone_yes rfl] at HT HG
      have e1 := rooms_walls hp
      rw [h0] at e1
      rw [e1] at HR
      have e2 := (tees_math hp).2
      clear hT LT hG LG e1 h0
      generalize namesB (turnB lP) = T at *
      generalize tightB lP = G at *
      generalize manyU lP = U at *
      generalize manyV lP = V at *
      have b3 : U ≤ 72 := by omega
      have b4 : V ≤ 72 := by omega
      clear e2
      go_wp2_with fail
      refine (HI.out _ c_P).mono ?_
      rintro e w4 ⟨rfl, hb⟩
      replace c_P := c_P.below hb
      replace hB := below_step hB hB.size hb
      clear hb
      go_wp2_with fail
      refine (HS.out _ c_P).mono ?_
      rintro e w5 ⟨rfl, hb⟩
      replace c_P := c_P.below hb
      replace hB := below_step hB hB.size hb
      clear hb
      go_wp2_with fail
      refine (HT.out _ c_P).mono ?_
      rintro e w6 ⟨⟨roT, rcT, rfl, ow⟩, hb⟩
      replace c_P := c_P.below hb
      replace hB := below_step hB hB.size hb
      clear hb
      have c_T := owns_cells ow
      clear ow
      go_wp2_with fail
      refine (HG.out _ c_P).mono ?_
      rintro e w7 ⟨⟨roG, rcG, rfl, ow⟩, hb⟩
      replace c_P := c_P.below hb
      replace c_T := c_T.below hb
      replace hB := below_step hB hB.size hb
      clear hb
      have c_G := owns_cells ow
      clear ow
      go_wp2_with fail
      refine (HM.out _ c_P).mono ?_
      rintro e w8 ⟨rfl, hb⟩
      replace c_P := c_P.below hb
      replace c_T := c_T.below hb
      replace c_G := c_G.below hb
      replace hB := below_step hB hB.size hb
      clear hb
      go_wp2_with fail
      refine (HR.out _ c_P).mono ?_
      rintro e w9 ⟨rfl, hb⟩
      replace c_P := c_P.below hb
      replace c_T := c_T.below hb
      replace c_G := c_G.below hb
      replace hB := below_step hB hB.size hb
      clear hb
      go_wp2_with fail
      refine (HX.out _ _ _ c_T).mono ?_
      rintro e w10 ⟨rfl, hb⟩
      replace c_P := c_P.below hb
      replace c_T := c_T.below hb
      replace c_G := c_G.below hb
      replace hB := below_step hB hB.size hb
      clear hb
      go_wp2_with fail
      refine (HY.out _ _ _ c_G).mono ?_
      rintro e w11 ⟨rfl, hb⟩
      replace c_P := c_P.below hb
      replace c_T := c_T.below hb
      replace c_G := c_G.below hb
      replace hB := below_step hB hB.size hb
      clear hb
      go_wp2
      go_ret
      exact ⟨rfl, hB⟩
  · have hdC : decide (1048576 < (lC.length : Int)) = true := by rw [decide_eq_true_eq]; omega
    go_enter Try.func8, Try.ntmps8
    go_wp2
    go_ret
    exact ⟨rfl, Below.refl _ _⟩

set_option maxRecDepth 100000 in
theorem fnPlain_lifted (os : Os) (started : os.Started) (H : Type) (enc : TypeId × Value → H) :
    ReturnsInHanded {} Try.checked os 8 .any (Rows.fnPlainSpec.pre6 enc Try.prog Try.f8 Rows.fnPlainRow.domain false) (Rows.fnPlainSpec.post enc Try.prog Try.f8 false true false false) := by
  refine returnsInHanded_of_change (C := Try.checked) Try.own started (by kernel_rfl) Try.func8
    (ChangeSpec.witness6 (enc := enc) (C := Try.checked) false ⟨#[], #[.slice none 0 0], []⟩ 8 (by kernel_rfl) (by kernel_rfl) (by kernel_rfl) (by kernel_rfl)) ?_
  intro W base args ds gs before hval0 hW _ _
  have hval : ∀ (j : Nat) t v, Try.f8.params[j]? = some t → args[j]? = some v → Value.okWide Try.prog W .any base t v := hval0
  have hW' := hW
  obtain ⟨p, q, hA0, hV, rfl, _, _⟩ := hW
  have hA : DataW.TrodAll enc Try.prog W 0 (fun _ => true) true Try.f8.params.toList args.toList ds p := hA0
  rw [Try.params8] at hA hval
  obtain ⟨v0, d0, rfl, rfl, h0⟩ := trodAll_one hA
  obtain ⟨rfl, rfl⟩ := trodVars_none hV
  obtain ⟨aC, eC, kC, rfl⟩ := okWide_slice Try.underlying22 (hval 0 22 v0 rfl rfl)
  clear hA0 hval0
  simp only [List.append_nil] at hW'
  have hlt0 : ∀ x ∈ p, x.block < W.heap.size := fun x hx => by simpa using hW'.lt x (by simp [hx])
  obtain ⟨lC, rfl, mC, zC, cC⟩ := open_bytes h0
  refine (fnPlain_all aC kC lC W mC zC cC).mono fun e W' ⟨he, hb⟩ => ?_
  subst he
  refine ⟨_, rfl, _, _, _, [], _, [], hW', trodAll_mk1 (shut_bool Try.underlying4 _), trodAll_mk1 (Below.trod Try.laidOut (by kernel_rfl) (of_decide_eq_true (by kernel_rfl)) h0 hb hlt0), rfl, hb.frame _, fun h => by cases h⟩

theorem fnPlain_holds : Rows.FnPlainSaid :=
  OpenClaim.holds_of_wide 8 Try.f8 rfl rfl rfl rfl rfl rfl rfl ⟨rfl, rfl, rfl, rfl, rfl⟩ rfl rfl rfl rfl rfl (by kernel_rfl) Try.func8 (by kernel_rfl)
    (of_decide_eq_true (by kernel_rfl)) (by unfold Func.isWrapper; first | (rw [if_pos (by decide +kernel)]; kernel_rfl) | (rw [if_neg (by decide +kernel)]; exact ⟨rfl, rfl⟩))
    (fun os started H enc _ => fnPlain_lifted os started H enc)

end Go.Proofs.Ytlbdkjhfnjofiaa
