
/-
  For every slice of bytes the law FnKindPlace returns true, and the slice reads behind the call as it read before. No condition.
-/
import Derived.Test.YtcapagegeomebaaOrdH
import Derived.Test.YtcapagegeomebaaDrawO
import Derived.Test.YtcapagegeomebaaRoomB
import Derived.Test.YtcapagegeomebaaDraw
import Derived.Test.YtcapagegeomebaaLaws
namespace Go.Proofs.Ytcapagegeomebaa
open Go.ChangeShapes Go.WideShapes Go.ChangeAt Go.RowKit

set_option maxRecDepth 100000 in
set_option maxHeartbeats 4000000 in
theorem fnKindPlace_all (aC : Option Addr) (kC : Nat) (lC : List UInt8) (w : World) (mC : lC.length ≤ maxLen) (zC : lC.length ≤ kC) (cC : CellsAt w aC (lC.map byteV)) :
    Calls Try.prog 6 #[.slice aC lC.length kC] w fun e w' => e = .returned (.bool true) ∧ Below w.heap.size w w' := by
  have mC2 := mC
  clear mC2
  by_cases dC : lC.length ≤ 1048576
  · have hdC : decide (1048576 < (lC.length : Int)) = false := by rw [decide_eq_false_iff_not]; omega
    go_enter Try.func6, Try.ntmps6
    go_wp2_with fail
    refine (drawOrderKind_any _ _ _ _ zC dC cC).mono ?_
    rintro e w1 ⟨⟨roP, rcP, lP, nA, nB, hsm, rfl, c_P⟩, hb⟩
    have hB := hb
    clear hb
    have LP : lP.length ≤ 1048576 := by have := hsm.2.1; omega
    have SP : ∀ s ∈ lP, s.size ≤ 1048576 := fun s h => by have := hsm.2.2 s h; omega
    cases hd : kindB lP nA nB
    · -- no kind
      have HI := Lib.hid (fun w c => implOrderKind_any roP rcP lP nA nB w LP SP c)
      have HS := Lib.hid (fun w c => specOrderKind_any roP rcP lP nA nB w LP SP c)
      rw [hd, kind_none hd] at HI HS
      go_wp2_with fail
      refine (HI.out _ c_P).mono ?_
      rintro e w2 ⟨rfl, hb⟩
      replace c_P := c_P.below hb
      replace hB := below_step hB hB.size hb
      clear hb
      go_wp2_with fail
      refine (HS.out _ c_P).mono ?_
      rintro e w3 ⟨rfl, hb⟩
      replace c_P := c_P.below hb
      replace hB := below_step hB hB.size hb
      clear hb
      go_wp2
      go_ret
      exact ⟨rfl, hB⟩
    · -- a kind
      have HI := Lib.hid (fun w c => implOrderKind_any roP rcP lP nA nB w LP SP c)
      have HS := Lib.hid (fun w c => specOrderKind_any roP rcP lP nA nB w LP SP c)
      have HA := Lib.hid (fun w c => implPlanRoom_any roP rcP lP nA w LP SP c)
      have HB := Lib.hid (fun w c => implPlanRoom_any roP rcP lP nB w LP SP c)
      rw [hd] at HI HS
      rcases kind_places hd with ⟨e5, e1, e2, e3⟩ | ⟨e5, e1, e2, e3⟩ | ⟨e5, e1, e2, e3⟩ | ⟨e5, e1, e2, e3⟩ <;> rw [e5] at HI HS <;> rw [e2] at HA <;> rw [e3] at HB <;> clear e2 e3 e5 hd <;> generalize (roomV lP nA).top = ta at * <;> generalize (roomV lP nA).left = la at * <;> generalize (roomV lP nB).top = tb at * <;> generalize (roomV lP nB).left = lb at * <;> generalize (roomV lP nA).low = xa at * <;> generalize (roomV lP nA).right = ya at * <;> generalize (roomV lP nB).low = xb at * <;> generalize (roomV lP nB).right = yb at *
      · skip
        go_wp2_with fail
        refine (HI.out _ c_P).mono ?_
        rintro e w4 ⟨rfl, hb⟩
        replace c_P := c_P.below hb
        replace hB := below_step hB hB.size hb
        clear hb
        go_wp2_with fail
        refine (HS.out _ c_P).mono ?_
        rintro e w5 ⟨rfl, hb⟩
        replace c_P := c_P.below hb
        replace hB := below_step hB hB.size hb
        clear hb
        go_wp2_with fail
        refine (HA.out _ c_P).mono ?_
        rintro e w6 ⟨rfl, hb⟩
        replace c_P := c_P.below hb
        replace hB := below_step hB hB.size hb
        clear hb
        clear HA
        go_wp2_with fail
        refine (HB.out _ c_P).mono ?_
        rintro e w7 ⟨rfl, hb⟩
        replace c_P := c_P.below hb
        replace hB := below_step hB hB.size hb
        clear hb
        go_wp2
        go_ret
        exact ⟨rfl, hB⟩
      · skip
        go_wp2_with fail
        refine (HI.out _ c_P).mono ?_
        rintro e w8 ⟨rfl, hb⟩
        replace c_P := c_P.below hb
        replace hB := below_step hB hB.size hb
        clear hb
        go_wp2_with fail
        refine (HS.out _ c_P).mono ?_
        rintro e w9 ⟨rfl, hb⟩
        replace c_P := c_P.below hb
        replace hB := below_step hB hB.size hb
        clear hb
        go_wp2_with fail
        refine (HA.out _ c_P).mono ?_
        rintro e w10 ⟨rfl, hb⟩
        replace c_P := c_P.below hb
        replace hB := below_step hB hB.size hb
        clear hb
        clear HA
        go_wp2_with fail
        refine (HB.out _ c_P).mono ?_
        rintro e w11 ⟨rfl, hb⟩
        replace c_P := c_P.below hb
        replace hB := below_step hB hB.size hb
        clear hb
        go_wp2
        go_ret
        exact ⟨rfl, hB⟩
      · skip
        go_wp2_with fail
        refine (HI.out _ c_P).mono ?_
        rintro e w12 ⟨rfl, hb⟩
        replace c_P := c_P.below hb
        replace hB := below_step hB hB.size hb
        clear hb
        go_wp2_with fail
        refine (HS.out _ c_P).mono ?_
        rintro e w13 ⟨rfl, hb⟩
        replace c_P := c_P.below hb
        replace hB := below_step hB hB.size hb
        clear hb
        go_wp2_with fail
        refine (HA.out _ c_P).mono ?_
        rintro e w14 ⟨rfl, hb⟩
        replace c_P := c_P.below hb
        replace hB := below_step hB hB.size hb
        clear hb
        clear HA
        go_wp2_with fail
        refine (HB.out _ c_P).mono ?_
        rintro e w15 ⟨rfl, hb⟩
        replace c_P := c_P.below hb
        replace hB := below_step hB hB.size hb
        clear hb
        go_wp2
        go_ret
        exact ⟨rfl, hB⟩
      · skip
        go_wp2_with fail
        refine (HI.out _ c_P).mono ?_
        rintro e w16 ⟨rfl, hb⟩
        replace c_P := c_P.below hb
        replace hB := below_step hB hB.size hb
        clear hb
        go_wp2_with fail
        refine (HS.out _ c_P).mono ?_
        rintro e w17 ⟨rfl, hb⟩
        replace c_P := c_P.below hb
        replace hB := below_step hB hB.size hb
        clear hb
        go_wp2_with fail
        refine (HA.out _ c_P).mono ?_
        rintro e w18 ⟨rfl, hb⟩
        replace c_P := c_P.below hb
        replace hB := below_step hB hB.size hb
        clear hb
        clear HA
        go_wp2_with fail
        refine (HB.out _ c_P).mono ?_
        rintro e w19 ⟨rfl, hb⟩
        replace c_P := c_P.below hb
        replace hB := below_step hB hB.size hb
        clear hb
        go_wp2
        go_ret
        exact ⟨rfl, hB⟩
  · have hdC : decide (1048576 < (lC.length : Int)) = true := by rw [decide_eq_true_eq]; omega
    go_enter Try.func6, Try.ntmps6
    go_wp2
    go_ret
    exact ⟨rfl, Below.refl _ _⟩

set_option maxRecDepth 100000 in
theorem fnKindPlace_lifted (os : Os) (started : os.Started) (H : Type) (enc : TypeId × Value → H) :
    ReturnsInHanded {} Try.checked os 6 .any (Rows.fnKindPlaceSpec.pre6 enc Try.prog Try.f6 Rows.fnKindPlaceRow.domain false) (Rows.fnKindPlaceSpec.post enc Try.prog Try.f6 false true false false) := by
  refine returnsInHanded_of_change (C := Try.checked) Try.own started (by kernel_rfl) Try.func6
    (ChangeSpec.witness6 (enc := enc) (C := Try.checked) false ⟨#[], #[.slice none 0 0], []⟩ 8 (by kernel_rfl) (by kernel_rfl) (by kernel_rfl) (by kernel_rfl)) ?_
  intro W base args ds gs before hval0 hW _ _
  have hval : ∀ (j : Nat) t v, Try.f6.params[j]? = some t → args[j]? = some v → Value.okWide Try.prog W .any base t v := hval0
  have hW' := hW
  obtain ⟨p, q, hA0, hV, rfl, _, _⟩ := hW
  have hA : DataW.TrodAll enc Try.prog W 0 (fun _ => true) true Try.f6.params.toList args.toList ds p := hA0
  rw [Try.params6] at hA hval
  obtain ⟨v0, d0, rfl, rfl, h0⟩ := trodAll_one hA
  obtain ⟨rfl, rfl⟩ := trodVars_none hV
  obtain ⟨aC, eC, kC, rfl⟩ := okWide_slice Try.underlying22 (hval 0 22 v0 rfl rfl)
  clear hA0 hval0
  simp only [List.append_nil] at hW'
  have hlt0 : ∀ x ∈ p, x.block < W.heap.size := fun x hx => by simpa using hW'.lt x (by simp [hx])
  obtain ⟨lC, rfl, mC, zC, cC⟩ := open_bytes h0
  refine (fnKindPlace_all aC kC lC W mC zC cC).mono fun e W' ⟨he, hb⟩ => ?_
  subst he
  refine ⟨_, rfl, _, _, _, [], _, [], hW', trodAll_mk1 (shut_bool Try.underlying4 _), trodAll_mk1 (Below.trod Try.laidOut (by kernel_rfl) (of_decide_eq_true (by kernel_rfl)) h0 hb hlt0), rfl, hb.frame _, fun h => by cases h⟩

theorem fnKindPlace_holds : Rows.FnKindPlaceSaid :=
  OpenClaim.holds_of_wide 6 Try.f6 rfl rfl rfl rfl rfl rfl rfl ⟨rfl, rfl, rfl, rfl, rfl⟩ rfl rfl rfl rfl rfl (by kernel_rfl) Try.func6 (by kernel_rfl)
    (of_decide_eq_true (by kernel_rfl)) (by unfold Func.isWrapper; first | (rw [if_pos (by decide +kernel)]; kernel_rfl) | (rw [if_neg (by decide +kernel)]; exact ⟨rfl, rfl⟩))
    (fun os started H enc _ => fnKindPlace_lifted os started H enc)

end Go.Proofs.Ytcapagegeomebaa
