
/-
  For every slice of bytes the law FnCutFirst returns true, and the slice reads behind the call as it read before. No condition.
-/
import Derived.Test.YtdhnklaflbaeeaaCut
import Derived.Test.YtdhnklaflbaeeaaDraw
import Derived.Test.YtdhnklaflbaeeaaLaws
namespace Go.Proofs.Ytdhnklaflbaeeaa
open Go.ChangeShapes Go.WideShapes Go.ChangeAt Go.RowKit

set_option maxRecDepth 100000 in
set_option maxHeartbeats 4000000 in
theorem fnCutFirst_all (aC : Option Addr) (kC : Nat) (lC : List UInt8) (w : World) (mC : lC.length ≤ maxLen) (zC : lC.length ≤ kC) (cC : CellsAt w aC (lC.map byteV)) :
    Calls Try.prog 18 #[.slice aC lC.length kC] w fun e w' => e = .returned (.bool true) ∧ Below w.heap.size w w' := by
  have mC2 := mC
  clear mC2
  by_cases dC : lC.length ≤ 1048576
  · have hdC : decide (1048576 < (lC.length : Int)) = false := by rw [decide_eq_false_iff_not]; omega
    go_enter Try.func18, Try.ntmps18
    go_wp2_with fail
    refine (drawCutFirst_any _ _ _ _ zC dC cC).mono ?_
    rintro e w1 ⟨⟨roP, rcP, lP, hsm, rfl, c_P⟩, hb⟩
    have hB := hb
    clear hb
    have LP : lP.length ≤ 1048576 := by have := hsm.2.1; omega
    have SP : ∀ s ∈ lP, s.size ≤ 1048576 := fun s h => by have := hsm.2.2 s h; omega
    cases hp : cutOk lP
    · -- no cut
      have HI := Lib.hid (fun w c => implCutFirst_any roP rcP lP w LP SP c)
      have HS := Lib.hid (fun w c => specCutFirst_any roP rcP lP w LP SP c)
      rw [hp] at HI HS
      go_wp2_with fail
      refine (HI.out _ c_P).mono ?_
      rintro e w2 ⟨rfl, hb⟩
      replace c_P := c_P.below hb
      replace hB := below_step hB hB.size hb
      clear hb
      go_wp2_with fail
      refine (HS.out _ c_P).mono ?_
      rintro e w3 ⟨rfl, hb⟩
      replace c_P := c_P.below hb
      replace hB := below_step hB hB.size hb
      clear hb
      go_wp2
      go_ret
      exact ⟨rfl, hB⟩
    · -- a cut
      have HI := Lib.hid (fun w c => implCutFirst_any roP rcP lP w LP SP c)
      have HS := Lib.hid (fun w c => specCutFirst_any roP rcP lP w LP SP c)
      have HL := Lib.hid (fun w c => implWallList_any roP rcP lP w LP SP c)
      have HM := Lib.hid (fun w c => implCutMany_any roP rcP lP w LP SP c)
      obtain ⟨hP, hi, hn1, hn2, X, hX, hX1, hX2⟩ := cut_math hp
      rw [hp] at HI HS
      rw [hP] at HL HM
      have HP0 := Lib.hid (show 0 < lP.length from (planP_of hP).grid.h1)
      have hlw : wideB lP = (lP.getD 0 ByteArray.empty).size := rfl
      rw [hlw] at hX2
      clear hlw
      generalize cutI lP = I at *
      generalize cutN lP = M at *
      generalize listOr lP = T at *
      have hd1 : decide ((1 : Int) ≤ (M : Int)) = true := by rw [decide_eq_true_eq]; omega
      go_wp2_with fail
      refine (HI.out _ c_P).mono ?_
      rintro e w4 ⟨rfl, hb⟩
      replace c_P := c_P.below hb
      replace hB := below_step hB hB.size hb
      clear hb
      go_wp2_with fail
      refine (HS.out _ c_P).mono ?_
      rintro e w5 ⟨rfl, hb⟩
      replace c_P := c_P.below hb
      replace hB := below_step hB hB.size hb
      clear hb
      go_wp2_with fail
      refine (HL.out _ c_P).mono ?_
      rintro e w6 ⟨⟨roL, rcL, rfl, hrow⟩, hb⟩
      replace c_P := c_P.below hb
      replace hB := below_step hB hB.size hb
      clear hb
      have HRO := Lib.hid hrow
      clear hrow
      go_wp2_with fail
      refine (HM.out _ c_P).mono ?_
      rintro e w7 ⟨rfl, hb⟩
      obtain ⟨us, hus⟩ := HRO.out.below hb
      replace c_P := c_P.below hb
      replace hB := below_step hB hB.size hb
      clear hb
      obtain ⟨bb, off, gg, cc, rfl, k0, hcl, _⟩ := hus.row hi (by rw [hX]; exact Nat.succ_pos _)
      rw [hX] at k0 hcl
      clear hus HRO
      obtain ⟨b0, o0, e0, x0⟩ := hcl.int 0 (by simp [wlN])
      obtain ⟨b3, o3, e3, x3⟩ := hcl.int 3 (by simp [wlN])
      simp only [Option.some.injEq, Addr.mk.injEq, and_true] at e0 e3
      obtain ⟨rfl, rfl⟩ := e0
      obtain ⟨rfl, rfl⟩ := e3
      simp only [wlN, List.getD_cons_zero, List.getD_cons_succ] at x0 x3
      have k0' : w7.cell? ⟨bb, off + I, none⟩ = some (.slice (some ⟨gg, 0, none⟩) 4 cc) := k0
      clear k0 hcl hX
      obtain ⟨bP, oP, rfl, kP⟩ := c_P.str 0 HP0.out
      rw [Nat.add_zero] at kP
      have hp0 := HP0.out
      have hp1 : (0 : Int) < (lP.length : Int) := by omega
      generalize lP.getD 0 ByteArray.empty = s0 at *
      rcases (show X.way = 0 ∨ X.way = 1 by omega) with hw | hw
      · rw [hw] at x0
        rw [if_pos hw] at hX2
        rw [hX2] at x3
        clear hX2 hw hX1
        go_wp2
        go_quiet (fail)
        go_wp2
        go_ret
        exact ⟨rfl, hB.trans (below_drewN _ _ _)⟩
      · rw [hw] at x0
        rw [if_neg (by omega)] at hX2
        rw [hX2] at x3
        clear hX2 hw hX1
        go_wp2
        go_quiet (fail)
        go_wp2
        go_ret
        exact ⟨rfl, hB.trans (below_drewN _ _ _)⟩
  · have hdC : decide (1048576 < (lC.length : Int)) = true := by rw [decide_eq_true_eq]; omega
    go_enter Try.func18, Try.ntmps18
    go_wp2
    go_ret
    exact ⟨rfl, Below.refl _ _⟩

set_option maxRecDepth 100000 in
theorem fnCutFirst_lifted (os : Os) (started : os.Started) (H : Type) (enc : TypeId × Value → H) :
    ReturnsInHanded {} Try.checked os 18 .any (Rows.fnCutFirstSpec.pre6 enc Try.prog Try.f18 Rows.fnCutFirstRow.domain false) (Rows.fnCutFirstSpec.post enc Try.prog Try.f18 false true false false) := by
  refine returnsInHanded_of_change (C := Try.checked) Try.own started (by kernel_rfl) Try.func18
    (ChangeSpec.witness6 (enc := enc) (C := Try.checked) false ⟨#[], #[.slice none 0 0], []⟩ 8 (by kernel_rfl) (by kernel_rfl) (by kernel_rfl) (by kernel_rfl)) ?_
  intro W base args ds gs before hval0 hW _ _
  have hval : ∀ (j : Nat) t v, Try.f18.params[j]? = some t → args[j]? = some v → Value.okWide Try.prog W .any base t v := hval0
  have hW' := hW
  obtain ⟨p, q, hA0, hV, rfl, _, _⟩ := hW
  have hA : DataW.TrodAll enc Try.prog W 0 (fun _ => true) true Try.f18.params.toList args.toList ds p := hA0
  rw [Try.params18] at hA hval
  obtain ⟨v0, d0, rfl, rfl, h0⟩ := trodAll_one hA
  obtain ⟨rfl, rfl⟩ := trodVars_none hV
  obtain ⟨aC, eC, kC, rfl⟩ := okWide_slice Try.underlying22 (hval 0 22 v0 rfl rfl)
  clear hA0 hval0
  simp only [List.append_nil] at hW'
  have hlt0 : ∀ x ∈ p, x.block < W.heap.size := fun x hx => by simpa using hW'.lt x (by simp [hx])
  obtain ⟨lC, rfl, mC, zC, cC⟩ := open_bytes h0
  refine (fnCutFirst_all aC kC lC W mC zC cC).mono fun e W' ⟨he, hb⟩ => ?_
  subst he
  refine ⟨_, rfl, _, _, _, [], _, [], hW', trodAll_mk1 (shut_bool Try.underlying4 _), trodAll_mk1 (Below.trod Try.laidOut (by kernel_rfl) (of_decide_eq_true (by kernel_rfl)) h0 hb hlt0), rfl, hb.frame _, fun h => by cases h⟩

theorem fnCutFirst_holds : Rows.FnCutFirstSaid :=
  OpenClaim.holds_of_wide 18 Try.f18 rfl rfl rfl rfl rfl rfl rfl ⟨rfl, rfl, rfl, rfl, rfl⟩ rfl rfl rfl rfl rfl (by kernel_rfl) Try.func18 (by kernel_rfl)
    (of_decide_eq_true (by kernel_rfl)) (by unfold Func.isWrapper; first | (rw [if_pos (by decide +kernel)]; kernel_rfl) | (rw [if_neg (by decide +kernel)]; exact ⟨rfl, rfl⟩))
    (fun os started H enc _ => fnCutFirst_lifted os started H enc)

end Go.Proofs.Ytdhnklaflbaeeaa
