
/-
  For every slice of bytes the law FnAbove returns true, and the slice reads behind the call as it read before. No condition.
-/
import Derived.Test.YtcapagegeomebaaOrdH
import Derived.Test.YtcapagegeomebaaDrawO
import Derived.Test.YtcapagegeomebaaDraw
import Derived.Test.YtcapagegeomebaaLaws
namespace Go.Proofs.Ytcapagegeomebaa
open Go.ChangeShapes Go.WideShapes Go.ChangeAt Go.RowKit

set_option maxRecDepth 100000 in
set_option maxHeartbeats 4000000 in
theorem fnAbove_all (aC : Option Addr) (kC : Nat) (lC : List UInt8) (w : World) (mC : lC.length ≤ maxLen) (zC : lC.length ≤ kC) (cC : CellsAt w aC (lC.map byteV)) :
    Calls Try.prog 4 #[.slice aC lC.length kC] w fun e w' => e = .returned (.bool true) ∧ Below w.heap.size w w' := by
  have mC2 := mC
  clear mC2
  by_cases dC : lC.length ≤ 1048576
  · have hdC : decide (1048576 < (lC.length : Int)) = false := by rw [decide_eq_false_iff_not]; omega
    go_enter Try.func4, Try.ntmps4
    go_wp2_with fail
    refine (drawOrderAbove_any _ _ _ _ zC dC cC).mono ?_
    rintro e w1 ⟨⟨roP, rcP, lP, nA, nB, hsm, rfl, c_P⟩, hb⟩
    have hB := hb
    clear hb
    have LP : lP.length ≤ 1048576 := by have := hsm.2.1; omega
    have SP : ∀ s ∈ lP, s.size ≤ 1048576 := fun s h => by have := hsm.2.2 s h; omega
    cases hd : ledP lP 1 nA nB
    · -- not above
      have HI := Lib.hid (fun w c => implOrderAbove_any roP rcP lP nA nB w LP SP c)
      have HS := Lib.hid (fun w c => specOrderAbove_any roP rcP lP nA nB w LP SP c)
      rw [hd] at HI HS
      go_wp2_with fail
      refine (HI.out _ c_P).mono ?_
      rintro e w2 ⟨rfl, hb⟩
      replace c_P := c_P.below hb
      replace hB := below_step hB hB.size hb
      clear hb
      go_wp2_with fail
      refine (HS.out _ c_P).mono ?_
      rintro e w3 ⟨rfl, hb⟩
      replace c_P := c_P.below hb
      replace hB := below_step hB hB.size hb
      clear hb
      go_wp2
      go_ret
      exact ⟨rfl, hB⟩
    · -- above
      have HI := Lib.hid (fun w c => implOrderAbove_any roP rcP lP nA nB w LP SP c)
      have HS := Lib.hid (fun w c => specOrderAbove_any roP rcP lP nA nB w LP SP c)
      have HR := Lib.hid (fun w c => implPlanRooms_any roP rcP lP w LP SP c)
      have HK := Lib.hid (fun w c => implOrderKind_any roP rcP lP nA nB w LP SP c)
      have HN := Lib.hid (fun (x y : Int) w c => implOrderAbove_any roP rcP lP x y w LP SP c)
      obtain ⟨d1, d2, d3, hpl⟩ := ledP_above hd
      have HT := Lib.hid (fun (x : Int) h => ledP_trans (by omega) hd (c := x) h)
      have hR9 := (planP_of hpl).few
      have hkb : kindB lP nA nB = true := by unfold kindB kindK; rw [hd]; simp
      rw [hpl, roomsOr_yes hpl, (planP_of hpl).rooms] at HR
      rw [kind_above hd, hkb] at HK
      rw [hd] at HI HS
      clear d1 d2 d3 hd hpl hkb
      generalize gridR lP = R at *
      go_wp2_with fail
      refine (HI.out _ c_P).mono ?_
      rintro e w4 ⟨rfl, hb⟩
      replace c_P := c_P.below hb
      replace hB := below_step hB hB.size hb
      clear hb
      go_wp2_with fail
      refine (HS.out _ c_P).mono ?_
      rintro e w5 ⟨rfl, hb⟩
      replace c_P := c_P.below hb
      replace hB := below_step hB hB.size hb
      clear hb
      go_wp2_with fail
      refine (HK.out _ c_P).mono ?_
      rintro e w6 ⟨rfl, hb⟩
      replace c_P := c_P.below hb
      replace hB := below_step hB hB.size hb
      clear hb
      go_wp2_with fail
      refine (HR.out _ c_P).mono ?_
      rintro e w7 ⟨rfl, hb⟩
      replace c_P := c_P.below hb
      replace hB := below_step hB hB.size hb
      clear hb
      have CP := Lib.hid c_P; have HB9 := Lib.hid hB
      clear c_P hB HI HS HR HK
      go_wp2
      go_loopw [12] (fun vi wr => ∃ i : Nat, i ≤ R ∧ vi = .int .i64 i ∧ Below w7.heap.size w7 wr) (fun vi _ => R - (intOf vi).toNat)
      case atStart => exact ⟨0, Nat.zero_le _, rfl, Below.refl _ _⟩
      case round =>
        obtain ⟨i, hi, rfl, hq⟩ := hrel
        by_cases hlt : i < R
        · have hlt' : decide ((i : Int) < (R : Int)) = true := by rw [decide_eq_true_eq]; omega
          have hc := CP.out.below hq
          have H1 := Lib.hid (HN.out nB (i : Int))
          have H2 := Lib.hid (HN.out nA (i : Int))
          cases hbi : ledP lP 1 nB (i : Int)
          · rw [hbi] at H1
            clear H2
            go_wp2_with fail
            refine (H1.out _ hc).mono ?_
            rintro e v1 ⟨rfl, hb1⟩
            have hq1 := below_step hq hq.size hb1
            go_wp2
            go_roundw
            case rel => exact ⟨i + 1, by omega, by go_num, hq1⟩
            case measure => simp [intOf]; omega
          · have hai := HT.out (i : Int) hbi
            rw [hbi] at H1
            rw [hai] at H2
            go_wp2_with fail
            refine (H1.out _ hc).mono ?_
            rintro e v1 ⟨rfl, hb1⟩
            have hq1 := below_step hq hq.size hb1
            have hc1 := hc.below hb1
            clear H1
            go_wp2_with fail
            refine (H2.out _ hc1).mono ?_
            rintro e v2 ⟨rfl, hb2⟩
            have hq2 := below_step hq1 hq1.size hb2
            go_wp2
            go_roundw
            case rel => exact ⟨i + 1, by omega, by go_num, hq2⟩
            case measure => simp [intOf]; omega
        · obtain rfl : i = R := by omega
          have hB := below_step HB9.out HB9.out.size hq
          go_wp2
          go_ret
          exact ⟨rfl, hB⟩
  · have hdC : decide (1048576 < (lC.length : Int)) = true := by rw [decide_eq_true_eq]; omega
    go_enter Try.func4, Try.ntmps4
    go_wp2
    go_ret
    exact ⟨rfl, Below.refl _ _⟩

set_option maxRecDepth 100000 in
theorem fnAbove_lifted (os : Os) (started : os.Started) (H : Type) (enc : TypeId × Value → H) :
    ReturnsInHanded {} Try.checked os 4 .any (Rows.fnAboveSpec.pre6 enc Try.prog Try.f4 Rows.fnAboveRow.domain false) (Rows.fnAboveSpec.post enc Try.prog Try.f4 false true false false) := by
  refine returnsInHanded_of_change (C := Try.checked) Try.own started (by kernel_rfl) Try.func4
    (ChangeSpec.witness6 (enc := enc) (C := Try.checked) false ⟨#[], #[.slice none 0 0], []⟩ 8 (by kernel_rfl) (by kernel_rfl) (by kernel_rfl) (by kernel_rfl)) ?_
  intro W base args ds gs before hval0 hW _ _
  have hval : ∀ (j : Nat) t v, Try.f4.params[j]? = some t → args[j]? = some v → Value.okWide Try.prog W .any base t v := hval0
  have hW' := hW
  obtain ⟨p, q, hA0, hV, rfl, _, _⟩ := hW
  have hA : DataW.TrodAll enc Try.prog W 0 (fun _ => true) true Try.f4.params.toList args.toList ds p := hA0
  rw [Try.params4] at hA hval
  obtain ⟨v0, d0, rfl, rfl, h0⟩ := trodAll_one hA
  obtain ⟨rfl, rfl⟩ := trodVars_none hV
  obtain ⟨aC, eC, kC, rfl⟩ := okWide_slice Try.underlying22 (hval 0 22 v0 rfl rfl)
  clear hA0 hval0
  simp only [List.append_nil] at hW'
  have hlt0 : ∀ x ∈ p, x.block < W.heap.size := fun x hx => by simpa using hW'.lt x (by simp [hx])
  obtain ⟨lC, rfl, mC, zC, cC⟩ := open_bytes h0
  refine (fnAbove_all aC kC lC W mC zC cC).mono fun e W' ⟨he, hb⟩ => ?_
  subst he
  refine ⟨_, rfl, _, _, _, [], _, [], hW', trodAll_mk1 (shut_bool Try.underlying4 _), trodAll_mk1 (Below.trod Try.laidOut (by kernel_rfl) (of_decide_eq_true (by kernel_rfl)) h0 hb hlt0), rfl, hb.frame _, fun h => by cases h⟩

theorem fnAbove_holds : Rows.FnAboveSaid :=
  OpenClaim.holds_of_wide 4 Try.f4 rfl rfl rfl rfl rfl rfl rfl ⟨rfl, rfl, rfl, rfl, rfl⟩ rfl rfl rfl rfl rfl (by kernel_rfl) Try.func4 (by kernel_rfl)
    (of_decide_eq_true (by kernel_rfl)) (by unfold Func.isWrapper; first | (rw [if_pos (by decide +kernel)]; kernel_rfl) | (rw [if_neg (by decide +kernel)]; exact ⟨rfl, rfl⟩))
    (fun os started H enc _ => fnAbove_lifted os started H enc)

end Go.Proofs.Ytcapagegeomebaa
