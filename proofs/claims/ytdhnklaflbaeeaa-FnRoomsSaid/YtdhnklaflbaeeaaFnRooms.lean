
/-
  For every slice of bytes the law FnRooms returns true, and the slice reads behind the call as it read before. No condition.
-/
import Derived.Test.YtdhnklaflbaeeaaAreas
import Derived.Test.YtdhnklaflbaeeaaDraw
import Derived.Test.YtdhnklaflbaeeaaLaws
namespace Go.Proofs.Ytdhnklaflbaeeaa
open Go.ChangeShapes Go.WideShapes Go.ChangeAt Go.RowKit

set_option maxRecDepth 100000 in
set_option maxHeartbeats 4000000 in
theorem fnRooms_all (aC : Option Addr) (kC : Nat) (lC : List UInt8) (w : World) (mC : lC.length ≤ maxLen) (zC : lC.length ≤ kC) (cC : CellsAt w aC (lC.map byteV)) :
    Calls Try.prog 5 #[.slice aC lC.length kC] w fun e w' => e = .returned (.bool true) ∧ Below w.heap.size w w' := by
  have mC2 := mC
  clear mC2
  by_cases dC : lC.length ≤ 1048576
  · have hdC : decide (1048576 < (lC.length : Int)) = false := by rw [decide_eq_false_iff_not]; omega
    go_enter Try.func5, Try.ntmps5
    go_wp2_with fail
    refine (drawPlanRooms_any _ _ _ _ zC dC cC).mono ?_
    rintro e w1 ⟨⟨roP, rcP, lP, hsm, rfl, c_P⟩, hb⟩
    have hB := hb
    clear hb
    have LP : lP.length ≤ 1048576 := by have := hsm.2.1; omega
    have SP : ∀ s ∈ lP, s.size ≤ 1048576 := fun s h => by have := hsm.2.2 s h; omega
    cases hp : planB lP
    · -- no plan
      have HI := Lib.hid (fun w c => implPlanRooms_any roP rcP lP w LP SP c)
      have HS := Lib.hid (fun w c => specPlanRooms_any roP rcP lP w LP SP c)
      rw [hp, roomsOr_no hp] at HI HS
      go_wp2_with fail
      refine (HI.out _ c_P).mono ?_
      rintro e w2 ⟨rfl, hb⟩
      replace c_P := c_P.below hb
      replace hB := below_step hB hB.size hb
      clear hb
      go_wp2_with fail
      refine (HS.out _ c_P).mono ?_
      rintro e w3 ⟨rfl, hb⟩
      replace c_P := c_P.below hb
      replace hB := below_step hB hB.size hb
      clear hb
      go_wp2
      go_ret
      exact ⟨rfl, hB⟩
    · -- a plan
      have HI := Lib.hid (fun w c => implPlanRooms_any roP rcP lP w LP SP c)
      have HS := Lib.hid (fun w c => specPlanRooms_any roP rcP lP w LP SP c)
      have HA := Lib.hid (fun w c => implAreas_any roP rcP lP w LP SP c)
      rw [hp] at HI HS HA
      obtain ⟨e1, e2, e3⟩ := areas_len hp
      have e4 := areas_sum hp
      have HB := Lib.hid (show ∀ x ∈ areasOr lP, 0 ≤ x ∧ x ≤ 100 from fun x hx => by have := areas_bound hp x hx; omega)
      have HP0 := Lib.hid (show 0 < lP.length from (planP_of hp).grid.h1)
      have hlw : (lP.getD 0 ByteArray.empty).size = wideB lP := rfl
      have hm : (lP.length : Int) * ((lP.getD 0 ByteArray.empty).size : Int) = ((lP.length * wideB lP : Nat) : Int) := by rw [hlw]; simp
      have hm6 : lP.length * wideB lP ≤ 36 := Nat.mul_le_mul (planP_of hp).grid.h6 (planP_of hp).grid.w6
      clear hlw
      generalize lP.length * wideB lP = A at *
      generalize areasOr lP = AR at *
      generalize roomsOr lP = R at *
      have hr1 : decide ((1 : Int) ≤ R) = true := by rw [decide_eq_true_eq]; omega
      have hr2 : ((AR.length : Int) == R) = true := by rw [beq_iff_eq]; omega
      have HR1 := Lib.hid hr1
      go_wp2_with fail
      refine (HI.out _ c_P).mono ?_
      rintro e w4 ⟨rfl, hb⟩
      replace c_P := c_P.below hb
      replace hB := below_step hB hB.size hb
      clear hb
      go_wp2_with fail
      refine (HS.out _ c_P).mono ?_
      rintro e w5 ⟨rfl, hb⟩
      replace c_P := c_P.below hb
      replace hB := below_step hB hB.size hb
      clear hb
      go_wp2_with fail
      refine (HA.out _ c_P).mono ?_
      rintro e w6 ⟨⟨roA, rcA, rfl, ow⟩, hb⟩
      replace c_P := c_P.below hb
      replace hB := below_step hB hB.size hb
      clear hb
      have c_A := owns_cells ow
      clear ow
      obtain ⟨bP, oP, rfl, kP⟩ := c_P.str 0 HP0.out
      rw [Nat.add_zero] at kP
      have hp0 := HP0.out
      have HE4 := Lib.hid e4
      clear e4 e1 e2
      have HCA := Lib.hid c_A
      clear c_A
      generalize lP.getD 0 ByteArray.empty = s0 at *
      go_wp2
      have HTO := Lib.hid (fun n => total_any roA rcA AR _ (by omega) HB.out (HCA.out.drewN n))
      rw [HE4.out] at HTO
      go_quiet ((go_at_call 32; exact Calls.quiet_of_same (HTO.out _)))
      go_wp2
      go_ret
      exact ⟨rfl, hB.trans (below_drewN _ _ _)⟩
  · have hdC : decide (1048576 < (lC.length : Int)) = true := by rw [decide_eq_true_eq]; omega
    go_enter Try.func5, Try.ntmps5
    go_wp2
    go_ret
    exact ⟨rfl, Below.refl _ _⟩

set_option maxRecDepth 100000 in
theorem fnRooms_lifted (os : Os) (started : os.Started) (H : Type) (enc : TypeId × Value → H) :
    ReturnsInHanded {} Try.checked os 5 .any (Rows.fnRoomsSpec.pre6 enc Try.prog Try.f5 Rows.fnRoomsRow.domain false) (Rows.fnRoomsSpec.post enc Try.prog Try.f5 false true false false) := by
  refine returnsInHanded_of_change (C := Try.checked) Try.own started (by kernel_rfl) Try.func5
    (ChangeSpec.witness6 (enc := enc) (C := Try.checked) false ⟨#[], #[.slice none 0 0], []⟩ 8 (by kernel_rfl) (by kernel_rfl) (by kernel_rfl) (by kernel_rfl)) ?_
  intro W base args ds gs before hval0 hW _ _
  have hval : ∀ (j : Nat) t v, Try.f5.params[j]? = some t → args[j]? = some v → Value.okWide Try.prog W .any base t v := hval0
  have hW' := hW
  obtain ⟨p, q, hA0, hV, rfl, _, _⟩ := hW
  have hA : DataW.TrodAll enc Try.prog W 0 (fun _ => true) true Try.f5.params.toList args.toList ds p := hA0
  rw [Try.params5] at hA hval
  obtain ⟨v0, d0, rfl, rfl, h0⟩ := trodAll_one hA
  obtain ⟨rfl, rfl⟩ := trodVars_none hV
  obtain ⟨aC, eC, kC, rfl⟩ := okWide_slice Try.underlying22 (hval 0 22 v0 rfl rfl)
  clear hA0 hval0
  simp only [List.append_nil] at hW'
  have hlt0 : ∀ x ∈ p, x.block < W.heap.size := fun x hx => by simpa using hW'.lt x (by simp [hx])
  obtain ⟨lC, rfl, mC, zC, cC⟩ := open_bytes h0
  refine (fnRooms_all aC kC lC W mC zC cC).mono fun e W' ⟨he, hb⟩ => ?_
  subst he
  refine ⟨_, rfl, _, _, _, [], _, [], hW', trodAll_mk1 (shut_bool Try.underlying4 _), trodAll_mk1 (Below.trod Try.laidOut (by kernel_rfl) (of_decide_eq_true (by kernel_rfl)) h0 hb hlt0), rfl, hb.frame _, fun h => by cases h⟩

theorem fnRooms_holds : Rows.FnRoomsSaid :=
  OpenClaim.holds_of_wide 5 Try.f5 rfl rfl rfl rfl rfl rfl rfl ⟨rfl, rfl, rfl, rfl, rfl⟩ rfl rfl rfl rfl rfl (by kernel_rfl) Try.func5 (by kernel_rfl)
    (of_decide_eq_true (by kernel_rfl)) (by unfold Func.isWrapper; first | (rw [if_pos (by decide +kernel)]; kernel_rfl) | (rw [if_neg (by decide +kernel)]; exact ⟨rfl, rfl⟩))
    (fun os started H enc _ => fnRooms_lifted os started H enc)

end Go.Proofs.Ytdhnklaflbaeeaa
