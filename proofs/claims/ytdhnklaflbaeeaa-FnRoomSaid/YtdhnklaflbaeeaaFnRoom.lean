
/-
  For every slice of bytes the law FnRoom returns true, and the slice reads behind the call as it read before. No condition.
-/
import Derived.Test.YtdhnklaflbaeeaaRoomM
import Derived.Test.YtdhnklaflbaeeaaRoomB
import Derived.Test.YtdhnklaflbaeeaaDraw
import Derived.Test.YtdhnklaflbaeeaaLaws
namespace Go.Proofs.Ytdhnklaflbaeeaa
open Go.ChangeShapes Go.WideShapes Go.ChangeAt Go.RowKit

set_option maxRecDepth 100000 in
set_option maxHeartbeats 4000000 in
theorem fnRoom_all (aC : Option Addr) (kC : Nat) (lC : List UInt8) (w : World) (mC : lC.length ≤ maxLen) (zC : lC.length ≤ kC) (cC : CellsAt w aC (lC.map byteV)) :
    Calls Try.prog 6 #[.slice aC lC.length kC] w fun e w' => e = .returned (.bool true) ∧ Below w.heap.size w w' := by
  have mC2 := mC
  clear mC2
  by_cases dC : lC.length ≤ 1048576
  · have hdC : decide (1048576 < (lC.length : Int)) = false := by rw [decide_eq_false_iff_not]; omega
    go_enter Try.func6, Try.ntmps6
    go_wp2_with fail
    refine (drawPlanRoom_any _ _ _ _ zC dC cC).mono ?_
    rintro e w1 ⟨⟨roP, rcP, lP, nP, hsm, rfl, c_P⟩, hb⟩
    have hB := hb
    clear hb
    have LP : lP.length ≤ 1048576 := by have := hsm.2.1; omega
    have SP : ∀ s ∈ lP, s.size ≤ 1048576 := fun s h => by have := hsm.2.2 s h; omega
    cases hp : givenB lP nP
    · -- no room
      have HI := Lib.hid (fun w c => implPlanRoom_any roP rcP lP nP w LP SP c)
      have HS := Lib.hid (fun w c => specPlanRoom_any roP rcP lP nP w LP SP c)
      rw [hp, roomV_no hp] at HI HS
      go_wp2_with fail
      refine (HI.out _ c_P).mono ?_
      rintro e w2 ⟨rfl, hb⟩
      replace c_P := c_P.below hb
      replace hB := below_step hB hB.size hb
      clear hb
      go_wp2_with fail
      refine (HS.out _ c_P).mono ?_
      rintro e w3 ⟨rfl, hb⟩
      replace c_P := c_P.below hb
      replace hB := below_step hB hB.size hb
      clear hb
      go_wp2
      go_ret
      exact ⟨rfl, hB⟩
    · -- a room
      have HI := Lib.hid (fun w c => implPlanRoom_any roP rcP lP nP w LP SP c)
      have HS := Lib.hid (fun w c => specPlanRoom_any roP rcP lP nP w LP SP c)
      have HA := Lib.hid (fun w c => implAreas_any roP rcP lP w LP SP c)
      obtain ⟨hP, k, x, rfl, hk, hv, ha, a1, a2, a3, a4⟩ := room_math hp
      rw [hp, hv] at HI HS
      rw [hP] at HA
      obtain ⟨b1, b2, b3, b4, A, hA36, hA, hA2⟩ := area_small hP a3 a4
      rw [hA2] at ha
      have HP0 := Lib.hid (show 0 < lP.length from (planP_of hP).grid.h1)
      have hlw : (lP.getD 0 ByteArray.empty).size = wideB lP := rfl
      have hd1 : decide ((x.row : Int) + (x.high : Int) ≤ (lP.length : Int)) = true := by rw [decide_eq_true_eq]; omega
      have hd2 : decide ((x.col : Int) + (x.wide : Int) ≤ ((lP.getD 0 ByteArray.empty).size : Int)) = true := by rw [hlw, decide_eq_true_eq]; omega
      have hd3 : decide ((1 : Int) ≤ (x.high : Int)) = true := by rw [decide_eq_true_eq]; omega
      have hd4 : decide ((1 : Int) ≤ (x.wide : Int)) = true := by rw [decide_eq_true_eq]; omega
      generalize areasOr lP = AR at *
      obtain ⟨rw_, hrw⟩ : ∃ n, x.row = n := ⟨_, rfl⟩
      obtain ⟨cl, hcl⟩ : ∃ n, x.col = n := ⟨_, rfl⟩
      obtain ⟨hh, hhh⟩ : ∃ n, x.high = n := ⟨_, rfl⟩
      obtain ⟨wi, hwi⟩ : ∃ n, x.wide = n := ⟨_, rfl⟩
      rw [hrw, hcl, hhh, hwi] at HI HS
      simp only [hrw, hcl, hhh, hwi] at *
      clear hrw hcl hhh hwi hv hlw hA2
      go_wp2_with fail
      refine (HI.out _ c_P).mono ?_
      rintro e w4 ⟨rfl, hb⟩
      replace c_P := c_P.below hb
      replace hB := below_step hB hB.size hb
      clear hb
      go_wp2_with fail
      refine (HS.out _ c_P).mono ?_
      rintro e w5 ⟨rfl, hb⟩
      replace c_P := c_P.below hb
      replace hB := below_step hB hB.size hb
      clear hb
      go_wp2_with fail
      refine (HA.out _ c_P).mono ?_
      rintro e w6 ⟨⟨roA, rcA, rfl, ow⟩, hb⟩
      replace c_P := c_P.below hb
      replace hB := below_step hB hB.size hb
      clear hb
      have c_A := owns_cells ow
      clear ow
      obtain ⟨bA, oA, rfl, kA⟩ := c_A.int k hk
      obtain ⟨bP, oP, rfl, kP⟩ := c_P.str 0 HP0.out
      rw [ha] at kA
      have kP2 := kP
      rw [Nat.add_zero] at kP
      have hp0 := HP0.out
      have hp1 : (0 : Int) < (lP.length : Int) := by omega
      generalize lP.getD 0 ByteArray.empty = s0 at *
      go_wp2
      go_ret
      exact ⟨rfl, hB⟩
  · have hdC : decide (1048576 < (lC.length : Int)) = true := by rw [decide_eq_true_eq]; omega
    go_enter Try.func6, Try.ntmps6
    go_wp2
    go_ret
    exact ⟨rfl, Below.refl _ _⟩

set_option maxRecDepth 100000 in
theorem fnRoom_lifted (os : Os) (started : os.Started) (H : Type) (enc : TypeId × Value → H) :
    ReturnsInHanded {} Try.checked os 6 .any (Rows.fnRoomSpec.pre6 enc Try.prog Try.f6 Rows.fnRoomRow.domain false) (Rows.fnRoomSpec.post enc Try.prog Try.f6 false true false false) := by
  refine returnsInHanded_of_change (C := Try.checked) Try.own started (by kernel_rfl) Try.func6
    (ChangeSpec.witness6 (enc := enc) (C := Try.checked) false ⟨#[], #[.slice none 0 0], []⟩ 8 (by kernel_rfl) (by kernel_rfl) (by kernel_rfl) (by kernel_rfl)) ?_
  intro W base args ds gs before hval0 hW _ _
  have hval : ∀ (j : Nat) t v, Try.f6.params[j]? = some t → args[j]? = some v → Value.okWide Try.prog W .any base t v := hval0
  have hW' := hW
  obtain ⟨p, q, hA0, hV, rfl, _, _⟩ := hW
  have hA : DataW.TrodAll enc Try.prog W 0 (fun _ => true) true Try.f6.params.toList args.toList ds p := hA0
  rw [Try.params6] at hA hval
  obtain ⟨v0, d0, rfl, rfl, h0⟩ := trodAll_one hA
  obtain ⟨rfl, rfl⟩ := trodVars_none hV
  obtain ⟨aC, eC, kC, rfl⟩ := okWide_slice Try.underlying22 (hval 0 22 v0 rfl rfl)
  clear hA0 hval0
  simp only [List.append_nil] at hW'
  have hlt0 : ∀ x ∈ p, x.block < W.heap.size := fun x hx => by simpa using hW'.lt x (by simp [hx])
  obtain ⟨lC, rfl, mC, zC, cC⟩ := open_bytes h0
  refine (fnRoom_all aC kC lC W mC zC cC).mono fun e W' ⟨he, hb⟩ => ?_
  subst he
  refine ⟨_, rfl, _, _, _, [], _, [], hW', trodAll_mk1 (shut_bool Try.underlying4 _), trodAll_mk1 (Below.trod Try.laidOut (by kernel_rfl) (of_decide_eq_true (by kernel_rfl)) h0 hb hlt0), rfl, hb.frame _, fun h => by cases h⟩

theorem fnRoom_holds : Rows.FnRoomSaid :=
  OpenClaim.holds_of_wide 6 Try.f6 rfl rfl rfl rfl rfl rfl rfl ⟨rfl, rfl, rfl, rfl, rfl⟩ rfl rfl rfl rfl rfl (by kernel_rfl) Try.func6 (by kernel_rfl)
    (of_decide_eq_true (by kernel_rfl)) (by unfold Func.isWrapper; first | (rw [if_pos (by decide +kernel)]; kernel_rfl) | (rw [if_neg (by decide +kernel)]; exact ⟨rfl, rfl⟩))
    (fun os started H enc _ => fnRoom_lifted os started H enc)

end Go.Proofs.Ytdhnklaflbaeeaa
