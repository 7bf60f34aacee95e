/-
  For every slice of bytes the law FnWide returns true, and the slice reads behind the call as it read before. No condition.
-/
import Derived.Test.YtdhnklaflbaeeaaWideM
import Derived.Test.YtdhnklaflbaeeaaDraw
import Derived.Test.YtdhnklaflbaeeaaLaws
namespace Go.Proofs.Ytdhnklaflbaeeaa
open Go.ChangeShapes Go.WideShapes Go.ChangeAt Go.RowKit

set_option maxRecDepth 100000 in
set_option maxHeartbeats 4000000 in
theorem fnWide_all (aC : Option Addr) (kC : Nat) (lC : List UInt8) (w : World) (mC : lC.length ≤ maxLen) (zC : lC.length ≤ kC) (cC : CellsAt w aC (lC.map byteV)) :
    Calls Try.prog 10 #[.slice aC lC.length kC] w fun e w' => e = .returned (.bool true) ∧ Below w.heap.size w w' := by
  have mC2 := mC
  clear mC2
  by_cases dC : lC.length ≤ 1048576
  · have hdC : decide (1048576 < (lC.length : Int)) = false := by rw [decide_eq_false_iff_not]; omega
    go_enter Try.func10, Try.ntmps10
    go_wp2_with fail
    refine (drawPlanWide_any _ _ _ _ zC dC cC).mono ?_
    rintro e w1 ⟨⟨roP, rcP, lP, nP, hsm, rfl, c_P⟩, hb⟩
    have hB := hb
    clear hb
    have LP : lP.length ≤ 1048576 := by have := hsm.2.1; omega
    have SP : ∀ s ∈ lP, s.size ≤ 1048576 := fun s h => by have := hsm.2.2 s h; omega
    cases hp : wideOk lP nP
    · -- none
      have HI := Lib.hid (fun w c => implWide_any roP rcP lP nP w LP SP c)
      have HS := Lib.hid (fun w c => specWide_any roP rcP lP nP w LP SP c)
      rw [hp, orNone_no rfl] at HI HS
      go_wp2_with fail
      refine (HI.out _ c_P).mono ?_
      rintro e w2 ⟨⟨roO, rcO, rfl, ow⟩, hb⟩
      replace c_P := c_P.below hb
      replace hB := below_step hB hB.size hb
      clear hb
      have c_O := owns_cells ow
      clear ow
      go_wp2_with fail
      refine (HS.out _ c_P).mono ?_
      rintro e w3 ⟨⟨roW, rcW, rfl, ow⟩, hb⟩
      replace c_P := c_P.below hb
      replace c_O := c_O.below hb
      replace hB := below_step hB hB.size hb
      clear hb
      have c_W := owns_cells ow
      clear ow
      go_wp2_with fail
      refine (sameTexts_any _ _ _ _ _ _ [] [] _ rfl rfl (by exact Nat.zero_le _) c_O c_W).mono ?_
      rw [eqS_self]
      rintro e w4 ⟨rfl, hq⟩
      have hb := quiet_below hq
      clear hq
      replace c_P := c_P.below hb
      replace c_O := c_O.below hb
      replace c_W := c_W.below hb
      replace hB := below_step hB hB.size hb
      clear hb
      go_wp2_with fail
      refine (sameTexts_any _ _ _ _ _ _ [] [] _ rfl rfl (by exact Nat.zero_le _) c_O c_W).mono ?_
      rw [eqS_self]
      rintro e w5 ⟨rfl, hq⟩
      have hb := quiet_below hq
      clear hq
      replace c_P := c_P.below hb
      replace c_O := c_O.below hb
      replace c_W := c_W.below hb
      replace hB := below_step hB hB.size hb
      clear hb
      go_wp2
      go_ret
      exact ⟨rfl, hB⟩
    · -- a plan
      have HI := Lib.hid (fun w c => implWide_any roP rcP lP nP w LP SP c)
      have HS := Lib.hid (fun w c => specWide_any roP rcP lP nP w LP SP c)
      rw [hp, orNone_yes rfl] at HI HS
      obtain ⟨pP, pO, k1, k3, hlen, hpt⟩ := wide_areas hp
      have LO := plan_small pO
      have HM := Lib.hid (fun w c => implAreas_any roP rcP lP w LP SP c)
      have HN := Lib.hid (fun ro rc w c => implAreas_any ro rc (namesB (spreadB lP nP.toNat)) w LO.1 LO.2 c)
      rw [pP] at HM
      rw [pO] at HN
      have hm9 := (areas_len pP).2.2
      have HBM := Lib.hid (areas_bound pP); have HBN := Lib.hid (areas_bound pO)
      obtain ⟨Q, hQ, q1, q9⟩ : ∃ Q : Int, nP * nP = Q ∧ 1 ≤ Q ∧ Q ≤ 9 := by rcases (show nP = 1 ∨ nP = 2 ∨ nP = 3 by omega) with rfl | rfl | rfl <;> exact ⟨_, rfl, by decide, by decide⟩
      rw [hQ] at hpt
      have HPT := Lib.hid hpt; clear hpt
      have LO1 := LO.1
      clear LO pO
      generalize namesB (spreadB lP nP.toNat) = O at *
      generalize areasOr lP = M at *
      generalize areasOr O = R at *
      go_wp2_with fail
      refine (HI.out _ c_P).mono ?_
      rintro e w6 ⟨⟨roO, rcO, rfl, ow⟩, hb⟩
      replace c_P := c_P.below hb
      replace hB := below_step hB hB.size hb
      clear hb
      have c_O := owns_cells ow
      clear ow
      go_wp2_with fail
      refine (HS.out _ c_P).mono ?_
      rintro e w7 ⟨⟨roW, rcW, rfl, ow⟩, hb⟩
      replace c_P := c_P.below hb
      replace c_O := c_O.below hb
      replace hB := below_step hB hB.size hb
      clear hb
      have c_W := owns_cells ow
      clear ow
      go_wp2_with fail
      refine (sameTexts_any _ _ _ _ _ _ O O _ rfl rfl (by unfold maxLen; omega) c_O c_W).mono ?_
      rw [eqS_self]
      rintro e w8 ⟨rfl, hq⟩
      have hb := quiet_below hq
      clear hq
      replace c_P := c_P.below hb
      replace c_O := c_O.below hb
      replace c_W := c_W.below hb
      replace hB := below_step hB hB.size hb
      clear hb
      go_wp2_with fail
      refine (HM.out _ c_P).mono ?_
      rintro e w9 ⟨⟨roM, rcM, rfl, ow⟩, hb⟩
      replace c_P := c_P.below hb
      replace c_O := c_O.below hb
      replace c_W := c_W.below hb
      replace hB := below_step hB hB.size hb
      clear hb
      have c_M := owns_cells ow
      clear ow
      go_wp2_with fail
      refine (HN.out _ _ _ c_O).mono ?_
      rintro e w10 ⟨⟨roN, rcN, rfl, ow⟩, hb⟩
      replace c_P := c_P.below hb
      replace c_O := c_O.below hb
      replace c_W := c_W.below hb
      replace c_M := c_M.below hb
      replace hB := below_step hB hB.size hb
      clear hb
      have c_N := owns_cells ow
      clear ow
      have CM := Lib.hid c_M; have CN := Lib.hid c_N; have HB9 := Lib.hid hB
      clear c_P c_O c_W c_M c_N hB
      obtain ⟨WK, hWK⟩ : ∃ WK, WK = w10 := ⟨_, rfl⟩
      go_wp2
      go_loopw [13] (fun vi wr => ∃ i : Nat, i ≤ M.length ∧ vi = .int .i64 i ∧ Below w10.heap.size w10 wr) (fun vi _ => M.length - (intOf vi).toNat)
      case atStart => exact ⟨0, Nat.zero_le _, rfl, Below.refl _ _⟩
      case round =>
        obtain ⟨i, hi, rfl, hq⟩ := hrel
        by_cases hlt : i < M.length
        · have hlt' : decide ((i : Int) < (M.length : Int)) = true := by rw [decide_eq_true_eq]; omega
          have hltn : i < R.length := by omega
          have a1 : decide ((R.length : Int) ≤ (i : Int)) = false := by rw [decide_eq_false_iff_not]; omega
          obtain ⟨b1, o1, rfl, kM⟩ := (CM.out.below hq).int i hlt
          obtain ⟨b2, o2, rfl, kN⟩ := (CN.out.below hq).int i hltn
          have e1 := HPT.out i hlt
          have e2 := HBM.out _ (getD_mem 0 hlt)
          have e3 := HBN.out _ (getD_mem 0 hltn)
          generalize M.getD i 0 = y at *
          generalize R.getD i 0 = z at *
          have e4 : Q * y = z := e1.symm
          clear e1
          have a2 : (z != z) = false := by simp
          have e5 : IntKind.i64.wrap Q = Q := wrap_small (by omega) (by omega)
          have e6 : IntKind.i64.wrap z = z := wrap_small (by omega) (by omega)
          go_wp2
          go_quiet (fail)
          go_wp2
          go_roundw
          case rel => exact ⟨i + 1, by omega, by go_num, hq.trans (below_drewN _ _ _)⟩
          case measure => simp [intOf]; omega
        · obtain rfl : i = M.length := by omega
          have hlt' : decide ((M.length : Int) < (M.length : Int)) = false := by rw [decide_eq_false_iff_not]; omega
          have h3 : ((M.length : Int) == (R.length : Int)) = true := by rw [beq_iff_eq]; omega
          go_wp2
          go_ret
          exact ⟨rfl, below_step HB9.out HB9.out.size hq⟩
  · have hdC : decide (1048576 < (lC.length : Int)) = true := by rw [decide_eq_true_eq]; omega
    go_enter Try.func10, Try.ntmps10
    go_wp2
    go_ret
    exact ⟨rfl, Below.refl _ _⟩

set_option maxRecDepth 100000 in
theorem fnWide_lifted (os : Os) (started : os.Started) (H : Type) (enc : TypeId × Value → H) :
    ReturnsInHanded {} Try.checked os 10 .any (Rows.fnWideSpec.pre6 enc Try.prog Try.f10 Rows.fnWideRow.domain false) (Rows.fnWideSpec.post enc Try.prog Try.f10 false true false false) := by
  refine returnsInHanded_of_change (C := Try.checked) Try.own started (by kernel_rfl) Try.func10
    (ChangeSpec.witness6 (enc := enc) (C := Try.checked) false ⟨#[], #[.slice none 0 0], []⟩ 8 (by kernel_rfl) (by kernel_rfl) (by kernel_rfl) (by kernel_rfl)) ?_
  intro W base args ds gs before hval0 hW _ _
  have hval : ∀ (j : Nat) t v, Try.f10.params[j]? = some t → args[j]? = some v → Value.okWide Try.prog W .any base t v := hval0
  have hW' := hW
  obtain ⟨p, q, hA0, hV, rfl, _, _⟩ := hW
  have hA : DataW.TrodAll enc Try.prog W 0 (fun _ => true) true Try.f10.params.toList args.toList ds p := hA0
  rw [Try.params10] at hA hval
  obtain ⟨v0, d0, rfl, rfl, h0⟩ := trodAll_one hA
  obtain ⟨rfl, rfl⟩ := trodVars_none hV
  obtain ⟨aC, eC, kC, rfl⟩ := okWide_slice Try.underlying22 (hval 0 22 v0 rfl rfl)
  clear hA0 hval0
  simp only [List.append_nil] at hW'
  have hlt0 : ∀ x ∈ p, x.block < W.heap.size := fun x hx => by simpa using hW'.lt x (by simp [hx])
  obtain ⟨lC, rfl, mC, zC, cC⟩ := open_bytes h0
  refine (fnWide_all aC kC lC W mC zC cC).mono fun e W' ⟨he, hb⟩ => ?_
  subst he
  refine ⟨_, rfl, _, _, _, [], _, [], hW', trodAll_mk1 (shut_bool Try.underlying4 _), trodAll_mk1 (Below.trod Try.laidOut (by kernel_rfl) (of_decide_eq_true (by kernel_rfl)) h0 hb hlt0), rfl, hb.frame _, fun h => by cases h⟩

theorem fnWide_holds : Rows.FnWideSaid :=
  OpenClaim.holds_of_wide 10 Try.f10 rfl rfl rfl rfl rfl rfl rfl ⟨rfl, rfl, rfl, rfl, rfl⟩ rfl rfl rfl rfl rfl (by kernel_rfl) Try.func10 (by kernel_rfl)
    (of_decide_eq_true (by kernel_rfl)) (by unfold Func.isWrapper; first | (rw [if_pos (by decide +kernel)]; kernel_rfl) | (rw [if_neg (by decide +kernel)]; exact ⟨rfl, rfl⟩))
    (fun os started H enc _ => fnWide_lifted os started H enc)

end Go.Proofs.Ytdhnklaflbaeeaa
