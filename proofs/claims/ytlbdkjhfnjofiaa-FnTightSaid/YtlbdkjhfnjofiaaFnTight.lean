
/-
  For every slice of bytes the law FnTight returns true, and the slice reads behind the call as it read before. No condition.
-/
import Derived.Test.YtlbdkjhfnjofiaaTightS
import Derived.Test.YtlbdkjhfnjofiaaTightW
import Derived.Test.YtlbdkjhfnjofiaaDraw
import Derived.Test.YtlbdkjhfnjofiaaLaws
namespace Go.Proofs.Ytlbdkjhfnjofiaa
open Go.ChangeShapes Go.WideShapes Go.ChangeAt Go.RowKit

set_option maxRecDepth 100000 in
set_option maxHeartbeats 4000000 in
theorem fnTight_all (aC : Option Addr) (kC : Nat) (lC : List UInt8) (w : World) (mC : lC.length ≤ maxLen) (zC : lC.length ≤ kC) (cC : CellsAt w aC (lC.map byteV)) :
    Calls Try.prog 3 #[.slice aC lC.length kC] w fun e w' => e = .returned (.bool true) ∧ Below w.heap.size w w' := by
  have mC2 := mC
  clear mC2
  by_cases dC : lC.length ≤ 1048576
  · have hdC : decide (1048576 < (lC.length : Int)) = false := by rw [decide_eq_false_iff_not]; omega
    go_enter Try.func3, Try.ntmps3
    go_wp2_with fail
    refine (drawPlanTight_any _ _ _ _ zC dC cC).mono ?_
    rintro e w1 ⟨⟨roP, rcP, lP, hsm, rfl, c_P⟩, hb⟩
    have hB := hb
    clear hb
    have LP : lP.length ≤ 1048576 := by have := hsm.2.1; omega
    have SP : ∀ s ∈ lP, s.size ≤ 1048576 := fun s h => by have := hsm.2.2 s h; omega
    cases hp : planB lP
    · -- no plan
      have HI := Lib.hid (fun w c => implTight_any roP rcP lP w LP SP c)
      have HS := Lib.hid (fun w c => specTight_any roP rcP lP w LP SP c)
      rw [hp, orNone_no rfl] at HI HS
      go_wp2_with fail
      refine (HI.out _ c_P).mono ?_
      rintro e w2 ⟨⟨roO, rcO, rfl, ow⟩, hb⟩
      replace c_P := c_P.below hb
      replace hB := below_step hB hB.size hb
      clear hb
      have c_O := owns_cells ow
      clear ow
      go_wp2_with fail
      refine (HS.out _ c_P).mono ?_
      rintro e w3 ⟨⟨roW, rcW, rfl, ow⟩, hb⟩
      replace c_P := c_P.below hb
      replace c_O := c_O.below hb
      replace hB := below_step hB hB.size hb
      clear hb
      have c_W := owns_cells ow
      clear ow
      go_wp2_with fail
      refine (sameTexts_any _ _ _ _ _ _ [] [] _ rfl rfl (Nat.zero_le _) c_O c_W).mono ?_
      rw [eqS_self]
      rintro e w4 ⟨rfl, hq⟩
      have hb := quiet_below hq
      clear hq
      replace c_P := c_P.below hb
      replace c_O := c_O.below hb
      replace c_W := c_W.below hb
      replace hB := below_step hB hB.size hb
      clear hb
      go_wp2_with fail
      refine (sameTexts_any _ _ _ _ _ _ [] [] _ rfl rfl (Nat.zero_le _) c_O c_W).mono ?_
      rw [eqS_self]
      rintro e w5 ⟨rfl, hq⟩
      have hb := quiet_below hq
      clear hq
      replace c_P := c_P.below hb
      replace c_O := c_O.below hb
      replace c_W := c_W.below hb
      replace hB := below_step hB hB.size hb
      clear hb
      go_wp2
      go_ret
      exact ⟨rfl, hB⟩
    · cases hw : wideOk lP 2
      · -- a plan that is too great to be wide
        have HI := Lib.hid (fun w c => implTight_any roP rcP lP w LP SP c)
        have HS := Lib.hid (fun w c => specTight_any roP rcP lP w LP SP c)
        have HR := Lib.hid (fun w c => implPlanRooms_any roP rcP lP w LP SP c)
        have HW := Lib.hid (fun w c => implWide_any roP rcP lP 2 w LP SP c)
        have hO := (is_tight hp).plan
        have LO := plan_small hO
        have E1 := tight_two hp
        have E2 := tight_rooms hp
        have HX := Lib.hid (fun ro rc w c => implTight_any ro rc (tightB lP) w LO.1 LO.2 c)
        have HQ := Lib.hid (fun ro rc w c => implPlanRooms_any ro rc (tightB lP) w LO.1 LO.2 c)
        rw [hO, E1, orNone_yes rfl] at HX
        rw [hO, E2] at HQ
        have HY := Lib.hid (fun ro rc w c => implTight_any ro rc [] w (Nat.zero_le _) (fun s h => by cases h) c)
        have hn : planB [] = false := by rfl
        rw [hn, orNone_no rfl] at HY
        rw [hw, orNone_no rfl] at HW
        rw [hp, orNone_yes rfl] at HI HS
        rw [hp] at HR
        have LO1 := LO.1
        clear E1 E2 hn LO hO
        generalize tightB lP = O at *
        generalize roomsOr lP = R at *
        go_wp2_with fail
        refine (HI.out _ c_P).mono ?_
        rintro e w6 ⟨⟨roO, rcO, rfl, ow⟩, hb⟩
        replace c_P := c_P.below hb
        replace hB := below_step hB hB.size hb
        clear hb
        have c_O := owns_cells ow
        clear ow
        go_wp2_with fail
        refine (HS.out _ c_P).mono ?_
        rintro e w7 ⟨⟨roW, rcW, rfl, ow⟩, hb⟩
        replace c_P := c_P.below hb
        replace c_O := c_O.below hb
        replace hB := below_step hB hB.size hb
        clear hb
        have c_W := owns_cells ow
        clear ow
        go_wp2_with fail
        refine (sameTexts_any _ _ _ _ _ _ O O _ rfl rfl (by unfold maxLen; omega) c_O c_W).mono ?_
        rw [eqS_self]
        rintro e w8 ⟨rfl, hq⟩
        have hb := quiet_below hq
        clear hq
        replace c_P := c_P.below hb
        replace c_O := c_O.below hb
        replace c_W := c_W.below hb
        replace hB := below_step hB hB.size hb
        clear hb
        go_wp2_with fail
        refine (HX.out _ _ _ c_O).mono ?_
        rintro e w9 ⟨⟨roX, rcX, rfl, ow⟩, hb⟩
        replace c_P := c_P.below hb
        replace c_O := c_O.below hb
        replace c_W := c_W.below hb
        replace hB := below_step hB hB.size hb
        clear hb
        have c_X := owns_cells ow
        clear ow
        go_wp2_with fail
        refine (HR.out _ c_P).mono ?_
        rintro e w10 ⟨rfl, hb⟩
        replace c_P := c_P.below hb
        replace c_O := c_O.below hb
        replace c_W := c_W.below hb
        replace c_X := c_X.below hb
        replace hB := below_step hB hB.size hb
        clear hb
        go_wp2_with fail
        refine (HQ.out _ _ _ c_O).mono ?_
        rintro e w11 ⟨rfl, hb⟩
        replace c_P := c_P.below hb
        replace c_O := c_O.below hb
        replace c_W := c_W.below hb
        replace c_X := c_X.below hb
        replace hB := below_step hB hB.size hb
        clear hb
        go_wp2_with fail
        refine (HW.out _ c_P).mono ?_
        rintro e w12 ⟨⟨roV, rcV, rfl, ow⟩, hb⟩
        replace c_P := c_P.below hb
        replace c_O := c_O.below hb
        replace c_W := c_W.below hb
        replace c_X := c_X.below hb
        replace hB := below_step hB hB.size hb
        clear hb
        have c_V := owns_cells ow
        clear ow
        go_wp2_with fail
        refine (HY.out _ _ _ c_V).mono ?_
        rintro e w13 ⟨⟨roY, rcY, rfl, ow⟩, hb⟩
        replace c_P := c_P.below hb
        replace c_O := c_O.below hb
        replace c_W := c_W.below hb
        replace c_X := c_X.below hb
        replace c_V := c_V.below hb
        replace hB := below_step hB hB.size hb
        clear hb
        have c_Y := owns_cells ow
        clear ow
        go_wp2_with fail
        refine (sameTexts_any _ _ _ _ _ _ O O _ rfl rfl (by unfold maxLen; omega) c_X c_O).mono ?_
        rw [eqS_self]
        rintro e w14 ⟨rfl, hq⟩
        have hb := quiet_below hq
        clear hq
        replace c_P := c_P.below hb
        replace c_O := c_O.below hb
        replace c_W := c_W.below hb
        replace c_X := c_X.below hb
        replace c_V := c_V.below hb
        replace c_Y := c_Y.below hb
        replace hB := below_step hB hB.size hb
        clear hb
        go_wp2
        go_ret
        exact ⟨rfl, hB⟩
      · -- a plan that may be made wide
        have HI := Lib.hid (fun w c => implTight_any roP rcP lP w LP SP c)
        have HS := Lib.hid (fun w c => specTight_any roP rcP lP w LP SP c)
        have HR := Lib.hid (fun w c => implPlanRooms_any roP rcP lP w LP SP c)
        have HW := Lib.hid (fun w c => implWide_any roP rcP lP 2 w LP SP c)
        have hO := (is_tight hp).plan
        have LO := plan_small hO
        have E1 := tight_two hp
        have E2 := tight_rooms hp
        have HX := Lib.hid (fun ro rc w c => implTight_any ro rc (tightB lP) w LO.1 LO.2 c)
        have HQ := Lib.hid (fun ro rc w c => implPlanRooms_any ro rc (tightB lP) w LO.1 LO.2 c)
        rw [hO, E1, orNone_yes rfl] at HX
        rw [hO, E2] at HQ
        have hV := (is_wide hw).plan
        have LV := plan_small hV
        have E3 := tight_wide hw
        have HY := Lib.hid (fun ro rc w c => implTight_any ro rc (namesB (spreadB lP 2)) w LV.1 LV.2 c)
        rw [hV, E3, orNone_yes rfl] at HY
        have h2 : (2 : Int).toNat = 2 := rfl
        rw [hw, orNone_yes rfl, h2] at HW
        rw [hp, orNone_yes rfl] at HI HS
        rw [hp] at HR
        have LO1 := LO.1
        clear E1 E2 E3 LO LV hO hV h2
        generalize tightB lP = O at *
        generalize namesB (spreadB lP 2) = V at *
        generalize roomsOr lP = R at *
        go_wp2_with fail
        refine (HI.out _ c_P).mono ?_
        rintro e w15 ⟨⟨roO, rcO, rfl, ow⟩, hb⟩
        replace c_P := c_P.below hb
        replace hB := below_step hB hB.size hb
        clear hb
        have c_O := owns_cells ow
        clear ow
        go_wp2_with fail
        refine (HS.out _ c_P).mono ?_
        rintro e w16 ⟨⟨roW, rcW, rfl, ow⟩, hb⟩
        replace c_P := c_P.below hb
        replace c_O := c_O.below hb
        replace hB := below_step hB hB.size hb
        clear hb
        have c_W := owns_cells ow
        clear ow
        go_wp2_with fail
        refine (sameTexts_any _ _ _ _ _ _ O O _ rfl rfl (by unfold maxLen; omega) c_O c_W).mono ?_
        rw [eqS_self]
        rintro e w17 ⟨rfl, hq⟩
        have hb := quiet_below hq
        clear hq
        replace c_P := c_P.below hb
        replace c_O := c_O.below hb
        replace c_W := c_W.below hb
        replace hB := below_step hB hB.size hb
        clear hb
        go_wp2_with fail
        refine (HX.out _ _ _ c_O).mono ?_
        rintro e w18 ⟨⟨roX, rcX, rfl, ow⟩, hb⟩
        replace c_P := c_P.below hb
        replace c_O := c_O.below hb
        replace c_W := c_W.below hb
        replace hB := below_step hB hB.size hb
        clear hb
        have c_X := owns_cells ow
        clear ow
        go_wp2_with fail
        refine (HR.out _ c_P).mono ?_
        rintro e w19 ⟨rfl, hb⟩
        replace c_P := c_P.below hb
        replace c_O := c_O.below hb
        replace c_W := c_W.below hb
        replace c_X := c_X.below hb
        replace hB := below_step hB hB.size hb
        clear hb
        go_wp2_with fail
        refine (HQ.out _ _ _ c_O).mono ?_
        rintro e w20 ⟨rfl, hb⟩
        replace c_P := c_P.below hb
        replace c_O := c_O.below hb
        replace c_W := c_W.below hb
        replace c_X := c_X.below hb
        replace hB := below_step hB hB.size hb
        clear hb
        go_wp2_with fail
        refine (HW.out _ c_P).mono ?_
        rintro e w21 ⟨⟨roV, rcV, rfl, ow⟩, hb⟩
        replace c_P := c_P.below hb
        replace c_O := c_O.below hb
        replace c_W := c_W.below hb
        replace c_X := c_X.below hb
        replace hB := below_step hB hB.size hb
        clear hb
        have c_V := owns_cells ow
        clear ow
        go_wp2_with fail
        refine (HY.out _ _ _ c_V).mono ?_
        rintro e w22 ⟨⟨roY, rcY, rfl, ow⟩, hb⟩
        replace c_P := c_P.below hb
        replace c_O := c_O.below hb
        replace c_W := c_W.below hb
        replace c_X := c_X.below hb
        replace c_V := c_V.below hb
        replace hB := below_step hB hB.size hb
        clear hb
        have c_Y := owns_cells ow
        clear ow
        go_wp2_with fail
        refine (sameTexts_any _ _ _ _ _ _ O O _ rfl rfl (by unfold maxLen; omega) c_X c_O).mono ?_
        rw [eqS_self]
        rintro e w23 ⟨rfl, hq⟩
        have hb := quiet_below hq
        clear hq
        replace c_P := c_P.below hb
        replace c_O := c_O.below hb
        replace c_W := c_W.below hb
        replace c_X := c_X.below hb
        replace c_V := c_V.below hb
        replace c_Y := c_Y.below hb
        replace hB := below_step hB hB.size hb
        clear hb
        go_wp2_with fail
        refine (sameTexts_any _ _ _ _ _ _ O O _ rfl rfl (by unfold maxLen; omega) c_Y c_O).mono ?_
        rw [eqS_self]
        rintro e w24 ⟨rfl, hq⟩
        have hb := quiet_below hq
        clear hq
        replace c_P := c_P.below hb
        replace c_O := c_O.below hb
        replace c_W := c_W.below hb
        replace c_X := c_X.below hb
        replace c_V := c_V.below hb
        replace c_Y := c_Y.below hb
        replace hB := below_step hB hB.size hb
        clear hb
        go_wp2
        go_ret
        exact ⟨rfl, hB⟩
  · have hdC : decide (1048576 < (lC.length : Int)) = true := by rw [decide_eq_true_eq]; omega
    go_enter Try.func3, Try.ntmps3
    go_wp2
    go_ret
    exact ⟨rfl, Below.refl _ _⟩

set_option maxRecDepth 100000 in
theorem fnTight_lifted (os : Os) (started : os.Started) (H : Type) (enc : TypeId × Value → H) :
    ReturnsInHanded {} Try.checked os 3 .any (Rows.fnTightSpec.pre6 enc Try.prog Try.f3 Rows.fnTightRow.domain false) (Rows.fnTightSpec.post enc Try.prog Try.f3 false true false false) := by
  refine returnsInHanded_of_change (C := Try.checked) Try.own started (by kernel_rfl) Try.func3
    (ChangeSpec.witness6 (enc := enc) (C := Try.checked) false ⟨#[], #[.slice none 0 0], []⟩ 8 (by kernel_rfl) (by kernel_rfl) (by kernel_rfl) (by kernel_rfl)) ?_
  intro W base args ds gs before hval0 hW _ _
  have hval : ∀ (j : Nat) t v, Try.f3.params[j]? = some t → args[j]? = some v → Value.okWide Try.prog W .any base t v := hval0
  have hW' := hW
  obtain ⟨p, q, hA0, hV, rfl, _, _⟩ := hW
  have hA : DataW.TrodAll enc Try.prog W 0 (fun _ => true) true Try.f3.params.toList args.toList ds p := hA0
  rw [Try.params3] at hA hval
  obtain ⟨v0, d0, rfl, rfl, h0⟩ := trodAll_one hA
  obtain ⟨rfl, rfl⟩ := trodVars_none hV
  obtain ⟨aC, eC, kC, rfl⟩ := okWide_slice Try.underlying22 (hval 0 22 v0 rfl rfl)
  clear hA0 hval0
  simp only [List.append_nil] at hW'
  have hlt0 : ∀ x ∈ p, x.block < W.heap.size := fun x hx => by simpa using hW'.lt x (by simp [hx])
  obtain ⟨lC, rfl, mC, zC, cC⟩ := open_bytes h0
  refine (fnTight_all aC kC lC W mC zC cC).mono fun e W' ⟨he, hb⟩ => ?_
  subst he
  refine ⟨_, rfl, _, _, _, [], _, [], hW', trodAll_mk1 (shut_bool Try.underlying4 _), trodAll_mk1 (Below.trod Try.laidOut (by kernel_rfl) (of_decide_eq_true (by kernel_rfl)) h0 hb hlt0), rfl, hb.frame _, fun h => by cases h⟩

theorem fnTight_holds : Rows.FnTightSaid :=
  OpenClaim.holds_of_wide 3 Try.f3 rfl rfl rfl rfl rfl rfl rfl ⟨rfl, rfl, rfl, rfl, rfl⟩ rfl rfl rfl rfl rfl (by kernel_rfl) Try.func3 (by kernel_rfl)
    (of_decide_eq_true (by kernel_rfl)) (by unfold Func.isWrapper; first | (rw [if_pos (by decide +kernel)]; kernel_rfl) | (rw [if_neg (by decide +kernel)]; exact ⟨rfl, rfl⟩))
    (fun os started H enc _ => fnTight_lifted os started H enc)

end Go.Proofs.Ytlbdkjhfnjofiaa
