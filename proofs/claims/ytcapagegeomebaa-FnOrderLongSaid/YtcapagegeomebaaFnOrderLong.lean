
/-
  For every slice of bytes the law FnOrderLong returns true, and the slice reads behind the call as it read before. No condition.
-/
import Derived.Test.YtcapagegeomebaaOrdH
import Derived.Test.YtcapagegeomebaaDrawO
import Derived.Test.YtcapagegeomebaaDraw
import Derived.Test.YtcapagegeomebaaLaws
namespace Go.Proofs.Ytcapagegeomebaa
open Go.ChangeShapes Go.WideShapes Go.ChangeAt Go.RowKit

set_option maxRecDepth 100000 in
set_option maxHeartbeats 4000000 in
theorem fnOrderLong_all (aC : Option Addr) (kC : Nat) (lC : List UInt8) (w : World) (mC : lC.length ≤ maxLen) (zC : lC.length ≤ kC) (cC : CellsAt w aC (lC.map byteV)) :
    Calls Try.prog 9 #[.slice aC lC.length kC] w fun e w' => e = .returned (.bool true) ∧ Below w.heap.size w w' := by
  have mC2 := mC
  clear mC2
  by_cases dC : lC.length ≤ 1048576
  · have hdC : decide (1048576 < (lC.length : Int)) = false := by rw [decide_eq_false_iff_not]; omega
    go_enter Try.func9, Try.ntmps9
    go_wp2_with fail
    refine (drawOrderLong_any _ _ _ _ zC dC cC).mono ?_
    rintro e w1 ⟨⟨roP, rcP, lP, hsm, rfl, c_P⟩, hb⟩
    have hB := hb
    clear hb
    have LP : lP.length ≤ 1048576 := by have := hsm.2.1; omega
    have SP : ∀ s ∈ lP, s.size ≤ 1048576 := fun s h => by have := hsm.2.2 s h; omega
    cases hp : plainB lP
    · -- no plain plan
      have HI := Lib.hid (fun w c => implOrderLong_any roP rcP lP w LP SP c)
      have HS := Lib.hid (fun w c => specOrderLong_any roP rcP lP w LP SP c)
      rw [hp, longP_no hp, longP_no hp] at HI HS
      go_wp2_with fail
      refine (HI.out _ c_P).mono ?_
      rintro e w2 ⟨rfl, hb⟩
      replace c_P := c_P.below hb
      replace hB := below_step hB hB.size hb
      clear hb
      go_wp2_with fail
      refine (HS.out _ c_P).mono ?_
      rintro e w3 ⟨rfl, hb⟩
      replace c_P := c_P.below hb
      replace hB := below_step hB hB.size hb
      clear hb
      go_wp2
      go_ret
      exact ⟨rfl, hB⟩
    · -- a plain plan
      have HI := Lib.hid (fun w c => implOrderLong_any roP rcP lP w LP SP c)
      have HS := Lib.hid (fun w c => specOrderLong_any roP rcP lP w LP SP c)
      have HR := Lib.hid (fun w c => implPlanRooms_any roP rcP lP w LP SP c)
      have hpl := plainB_plan hp
      obtain ⟨m1, m2, m3, m4, m5⟩ := longRows_math hp
      rw [hp] at HI HS
      rw [hpl, roomsOr_yes hpl, (planP_of hpl).rooms] at HR
      have h6 := (planP_of hpl).grid.h6; have w6 := (planP_of hpl).grid.w6; have h1 := (planP_of hpl).grid.h1
      obtain ⟨b0, o0, hro, k0⟩ := c_P.str 0 (by omega)
      clear k0
      subst hro
      unfold wideB at m3 w6
      clear hpl hp
      generalize longP lP 0 = X at *
      generalize longP lP 1 = Y at *
      generalize gridR lP = R at *
      have hXY : X * Y ≤ 36 := Nat.mul_le_mul (by omega : X ≤ 6) (by omega : Y ≤ 6)
      have hxy : ((X : Int) * (Y : Int)) = ((X * Y : Nat) : Int) := by simp
      generalize hz : X * Y = Z at *
      clear hz
      go_wp2_with fail
      refine (HI.out _ c_P).mono ?_
      rintro e w4 ⟨rfl, hb⟩
      replace c_P := c_P.below hb
      replace hB := below_step hB hB.size hb
      clear hb
      go_wp2_with fail
      refine (HS.out _ c_P).mono ?_
      rintro e w5 ⟨rfl, hb⟩
      replace c_P := c_P.below hb
      replace hB := below_step hB hB.size hb
      clear hb
      go_wp2_with fail
      refine (HR.out _ c_P).mono ?_
      rintro e w6 ⟨rfl, hb⟩
      replace c_P := c_P.below hb
      replace hB := below_step hB hB.size hb
      clear hb
      obtain ⟨b1, o1, hro, k0⟩ := c_P.str 0 (by omega)
      cases hro
      rw [Nat.add_zero] at k0
      generalize lP.getD 0 ByteArray.empty = s0 at *
      have q1 : (1 : Int) ≤ (X : Int) := by omega
      have q2 : (1 : Int) ≤ (Y : Int) := by omega
      have q3 : (X : Int) ≤ (s0.size : Int) := by omega
      have q4 : (Y : Int) ≤ (lP.length : Int) := by omega
      have q5 : (R : Int) ≤ (Z : Int) := by omega
      go_wp2
      go_ret
      exact ⟨rfl, hB⟩
  · have hdC : decide (1048576 < (lC.length : Int)) = true := by rw [decide_eq_true_eq]; omega
    go_enter Try.func9, Try.ntmps9
    go_wp2
    go_ret
    exact ⟨rfl, Below.refl _ _⟩

set_option maxRecDepth 100000 in
theorem fnOrderLong_lifted (os : Os) (started : os.Started) (H : Type) (enc : TypeId × Value → H) :
    ReturnsInHanded {} Try.checked os 9 .any (Rows.fnOrderLongSpec.pre6 enc Try.prog Try.f9 Rows.fnOrderLongRow.domain false) (Rows.fnOrderLongSpec.post enc Try.prog Try.f9 false true false false) := by
  refine returnsInHanded_of_change (C := Try.checked) Try.own started (by kernel_rfl) Try.func9
    (ChangeSpec.witness6 (enc := enc) (C := Try.checked) false ⟨#[], #[.slice none 0 0], []⟩ 8 (by kernel_rfl) (by kernel_rfl) (by kernel_rfl) (by kernel_rfl)) ?_
  intro W base args ds gs before hval0 hW _ _
  have hval : ∀ (j : Nat) t v, Try.f9.params[j]? = some t → args[j]? = some v → Value.okWide Try.prog W .any base t v := hval0
  have hW' := hW
  obtain ⟨p, q, hA0, hV, rfl, _, _⟩ := hW
  have hA : DataW.TrodAll enc Try.prog W 0 (fun _ => true) true Try.f9.params.toList args.toList ds p := hA0
  rw [Try.params9] at hA hval
  obtain ⟨v0, d0, rfl, rfl, h0⟩ := trodAll_one hA
  obtain ⟨rfl, rfl⟩ := trodVars_none hV
  obtain ⟨aC, eC, kC, rfl⟩ := okWide_slice Try.underlying22 (hval 0 22 v0 rfl rfl)
  clear hA0 hval0
  simp only [List.append_nil] at hW'
  have hlt0 : ∀ x ∈ p, x.block < W.heap.size := fun x hx => by simpa using hW'.lt x (by simp [hx])
  obtain ⟨lC, rfl, mC, zC, cC⟩ := open_bytes h0
  refine (fnOrderLong_all aC kC lC W mC zC cC).mono fun e W' ⟨he, hb⟩ => ?_
  subst he
  refine ⟨_, rfl, _, _, _, [], _, [], hW', trodAll_mk1 (shut_bool Try.underlying4 _), trodAll_mk1 (Below.trod Try.laidOut (by kernel_rfl) (of_decide_eq_true (by kernel_rfl)) h0 hb hlt0), rfl, hb.frame _, fun h => by cases h⟩

theorem fnOrderLong_holds : Rows.FnOrderLongSaid :=
  OpenClaim.holds_of_wide 9 Try.f9 rfl rfl rfl rfl rfl rfl rfl ⟨rfl, rfl, rfl, rfl, rfl⟩ rfl rfl rfl rfl rfl (by kernel_rfl) Try.func9 (by kernel_rfl)
    (of_decide_eq_true (by kernel_rfl)) (by unfold Func.isWrapper; first | (rw [if_pos (by decide +kernel)]; kernel_rfl) | (rw [if_neg (by decide +kernel)]; exact ⟨rfl, rfl⟩))
    (fun os started H enc _ => fnOrderLong_lifted os started H enc)

end Go.Proofs.Ytcapagegeomebaa
