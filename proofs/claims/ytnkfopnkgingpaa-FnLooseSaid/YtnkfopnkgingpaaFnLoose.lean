
/-
  For every slice of bytes the law FnLoose returns true, and the slice reads behind the call as it read before. No condition.
-/
import Derived.Test.YtnkfopnkgingpaaSevB
import Derived.Test.YtnkfopnkgingpaaSevAB
import Derived.Test.YtnkfopnkgingpaaSevAC
import Derived.Test.YtnkfopnkgingpaaCalm
import Derived.Test.YtnkfopnkgingpaaNumA
import Derived.Test.YtnkfopnkgingpaaPick
import Derived.Test.YtnkfopnkgingpaaLawK
namespace Go.Proofs.Ytnkfopnkgingpaa
open Go.ChangeShapes Go.WideShapes Go.ChangeAt Go.RowKit

set_option maxRecDepth 100000 in
set_option maxHeartbeats 4000000 in
theorem fnLoose_all (aC : Option Addr) (kC : Nat) (lC : List UInt8) (w : World) (mC : lC.length ≤ maxLen) (zC : lC.length ≤ kC) (cC : CellsAt w aC (lC.map byteV)) :
    Calls Try.prog 5 #[.slice aC lC.length kC] w fun e w' => e = .returned (.bool true) ∧ Below w.heap.size w w' := by
  have mC2 := mC
  clear mC2
  by_cases dC : lC.length ≤ 1048576
  · have hdC : decide (1048576 < (lC.length : Int)) = false := by rw [decide_eq_false_iff_not]; omega
    go_enter Try.func5, Try.ntmps5
    go_wp2_with fail
    refine (drawPermLoose_any _ _ _ _ zC dC cC).mono ?_
    rintro e w1 ⟨roP, rcP, lP, h8, rfl, c_P, hb⟩
    have hB := hb
    clear hb
    have LP : lP.length ≤ 1048576 := by omega
    cases hp : looseO lP
    · -- none
      have HI := Lib.hid (fun w c => implPermLoose_any roP rcP lP w LP c)
      have HS := Lib.hid (fun w c => specPermLoose_any roP rcP lP w LP c)
      rw [hp] at HI HS
      clear hp
      go_wp2_with fail
      refine (HI.out _ c_P).mono ?_
      rintro e w2 ⟨rfl, hb⟩
      replace c_P := c_P.below hb
      replace hB := below_step hB hB.size hb
      clear hb
      go_wp2_with fail
      refine (HS.out _ c_P).mono ?_
      rintro e w3 ⟨rfl, hb⟩
      replace c_P := c_P.below hb
      replace hB := below_step hB hB.size hb
      clear hb
      go_wp2
      go_ret
      exact ⟨rfl, hB⟩
    · -- one
      have HI := Lib.hid (fun w c => implPermLoose_any roP rcP lP w LP c)
      have HS := Lib.hid (fun w c => specPermLoose_any roP rcP lP w LP c)
      obtain ⟨iP, iF⟩ : isP lP = true ∧ looseB lP = true := by unfold looseO at hp; rwa [Bool.and_eq_true] at hp
      have fP := isP_few iP
      obtain ⟨R, hR⟩ : ∃ R, lP.reverse = R := ⟨_, rfl⟩
      obtain ⟨V, hV⟩ : ∃ V, invL lP = V := ⟨_, rfl⟩
      have hRl : R.length = lP.length := by rw [← hR, List.length_reverse]
      have hVl : V.length = lP.length := by rw [← hV, invL_len]
      have hRf : looseO R = true := by unfold looseO; rw [Bool.and_eq_true, ← hR]; exact ⟨isP_mk fP.rev (by rw [List.length_reverse]; exact isP_pos iP), looseB_iff.2 (looseB_iff.1 iF).rev⟩
      have hVf : looseO V = true := by unfold looseO; rw [Bool.and_eq_true, ← hV]; exact ⟨isP_mk fP.inv (by rw [invL_len]; exact isP_pos iP), looseB_iff.2 ((looseB_iff.1 iF).inv fP)⟩
      have hFf : fairO lP = true := by unfold fairO; rw [iP, Bool.true_and]; exact fairB_iff.2 (looseB_iff.1 iF).fair
      have HFP := Lib.hid (fun w c => implPermFair_any roP rcP lP w LP c)
      rw [hFf] at HFP
      have HBK := Lib.hid (fun w c => implPermBack_any roP rcP lP w LP c)
      have HOT := Lib.hid (fun w c => implPermOther_any roP rcP lP w LP c)
      rw [iP, show backO lP = R by unfold backO; rw [orNil_yes iP]; exact hR] at HBK
      rw [iP, show otherO lP = V by unfold otherO; rw [orNil_yes iP]; exact hV] at HOT
      rw [hp] at HI HS
      have HIR := Lib.hid (fun ro rc w (c : CellsAt w ro (R.map (Value.int .i64))) => implPermLoose_any ro rc R w (by omega) c)
      have HIV := Lib.hid (fun ro rc w (c : CellsAt w ro (V.map (Value.int .i64))) => implPermLoose_any ro rc V w (by omega) c)
      rw [hRf] at HIR
      rw [hVf] at HIV
      clear hRf hVf hR hV hRl hVl fP iP iF hp hFf
      go_wp2_with fail
      refine (HI.out _ c_P).mono ?_
      rintro e w4 ⟨rfl, hb⟩
      replace c_P := c_P.below hb
      replace hB := below_step hB hB.size hb
      clear hb
      go_wp2_with fail
      refine (HS.out _ c_P).mono ?_
      rintro e w5 ⟨rfl, hb⟩
      replace c_P := c_P.below hb
      replace hB := below_step hB hB.size hb
      clear hb
      go_wp2_with fail
      refine (HBK.out _ c_P).mono ?_
      rintro e w6 ⟨⟨roB, rcB, rfl, ow⟩, hb⟩
      replace c_P := c_P.below hb
      replace hB := below_step hB hB.size hb
      clear hb
      have c_B := owns_cells ow
      clear ow
      go_wp2_with fail
      refine (HOT.out _ c_P).mono ?_
      rintro e w7 ⟨⟨roO, rcO, rfl, ow⟩, hb⟩
      replace c_P := c_P.below hb
      replace c_B := c_B.below hb
      replace hB := below_step hB hB.size hb
      clear hb
      have c_O := owns_cells ow
      clear ow
      go_wp2_with fail
      refine (HFP.out _ c_P).mono ?_
      rintro e w8 ⟨rfl, hb⟩
      replace c_P := c_P.below hb
      replace c_B := c_B.below hb
      replace c_O := c_O.below hb
      replace hB := below_step hB hB.size hb
      clear hb
      go_wp2_with fail
      refine (HIR.out _ _ _ c_B).mono ?_
      rintro e w9 ⟨rfl, hb⟩
      replace c_P := c_P.below hb
      replace c_B := c_B.below hb
      replace c_O := c_O.below hb
      replace hB := below_step hB hB.size hb
      clear hb
      go_wp2_with fail
      refine (HIV.out _ _ _ c_O).mono ?_
      rintro e w10 ⟨rfl, hb⟩
      replace c_P := c_P.below hb
      replace c_B := c_B.below hb
      replace c_O := c_O.below hb
      replace hB := below_step hB hB.size hb
      clear hb
      go_wp2
      go_ret
      exact ⟨rfl, hB⟩
  · have hdC : decide (1048576 < (lC.length : Int)) = true := by rw [decide_eq_true_eq]; omega
    go_enter Try.func5, Try.ntmps5
    go_wp2
    go_ret
    exact ⟨rfl, Below.refl _ _⟩

set_option maxRecDepth 100000 in
theorem fnLoose_lifted (os : Os) (started : os.Started) (H : Type) (enc : TypeId × Value → H) :
    ReturnsInHanded {} Try.checked os 5 .any (Rows.fnLooseSpec.pre6 enc Try.prog Try.f5 Rows.fnLooseRow.domain false) (Rows.fnLooseSpec.post enc Try.prog Try.f5 false true false false) := by
  refine returnsInHanded_of_change (C := Try.checked) Try.own started (by kernel_rfl) Try.func5
    (ChangeSpec.witness6 (enc := enc) (C := Try.checked) false ⟨#[], #[.slice none 0 0], []⟩ 8 (by kernel_rfl) (by kernel_rfl) (by kernel_rfl) (by kernel_rfl)) ?_
  intro W base args ds gs before hval0 hW _ _
  have hval : ∀ (j : Nat) t v, Try.f5.params[j]? = some t → args[j]? = some v → Value.okWide Try.prog W .any base t v := hval0
  have hW' := hW
  obtain ⟨p, q, hA0, hV, rfl, _, _⟩ := hW
  have hA : DataW.TrodAll enc Try.prog W 0 (fun _ => true) true Try.f5.params.toList args.toList ds p := hA0
  rw [Try.params5] at hA hval
  obtain ⟨v0, d0, rfl, rfl, h0⟩ := trodAll_one hA
  obtain ⟨rfl, rfl⟩ := trodVars_none hV
  obtain ⟨aC, eC, kC, rfl⟩ := okWide_slice Try.underlying22 (hval 0 22 v0 rfl rfl)
  clear hA0 hval0
  simp only [List.append_nil] at hW'
  have hlt0 : ∀ x ∈ p, x.block < W.heap.size := fun x hx => by simpa using hW'.lt x (by simp [hx])
  obtain ⟨lC, rfl, mC, zC, cC⟩ := open_bytes h0
  refine (fnLoose_all aC kC lC W mC zC cC).mono fun e W' ⟨he, hb⟩ => ?_
  subst he
  refine ⟨_, rfl, _, _, _, [], _, [], hW', trodAll_mk1 (shut_bool Try.underlying4 _), trodAll_mk1 (Below.trod Try.laidOut (by kernel_rfl) (of_decide_eq_true (by kernel_rfl)) h0 hb hlt0), rfl, hb.frame _, fun h => by cases h⟩

theorem fnLoose_holds : Rows.FnLooseSaid :=
  OpenClaim.holds_of_wide 5 Try.f5 rfl rfl rfl rfl rfl rfl rfl ⟨rfl, rfl, rfl, rfl, rfl⟩ rfl rfl rfl rfl rfl (by kernel_rfl) Try.func5 (by kernel_rfl)
    (of_decide_eq_true (by kernel_rfl)) (by unfold Func.isWrapper; first | (rw [if_pos (by decide +kernel)]; kernel_rfl) | (rw [if_neg (by decide +kernel)]; exact ⟨rfl, rfl⟩))
    (fun os started H enc _ => fnLoose_lifted os started H enc)

end Go.Proofs.Ytnkfopnkgingpaa
