
/-
  For every slice of bytes the law FnUnderPerm returns true, and the slice reads behind the call as it read before. No condition.
-/
import Derived.Test.YtnkfopnkgingpaaSevY
import Derived.Test.YtnkfopnkgingpaaSevB
import Derived.Test.YtnkfopnkgingpaaCalm
import Derived.Test.YtnkfopnkgingpaaNumA
import Derived.Test.YtnkfopnkgingpaaPick
import Derived.Test.YtnkfopnkgingpaaLawK
namespace Go.Proofs.Ytnkfopnkgingpaa
open Go.ChangeShapes Go.WideShapes Go.ChangeAt Go.RowKit

set_option maxRecDepth 100000 in
set_option maxHeartbeats 4000000 in
theorem fnUnderPerm_all (aC : Option Addr) (kC : Nat) (lC : List UInt8) (w : World) (mC : lC.length ≤ maxLen) (zC : lC.length ≤ kC) (cC : CellsAt w aC (lC.map byteV)) :
    Calls Try.prog 9 #[.slice aC lC.length kC] w fun e w' => e = .returned (.bool true) ∧ Below w.heap.size w w' := by
  have mC2 := mC
  clear mC2
  by_cases dC : lC.length ≤ 1048576
  · have hdC : decide (1048576 < (lC.length : Int)) = false := by rw [decide_eq_false_iff_not]; omega
    go_enter Try.func9, Try.ntmps9
    go_wp2_with fail
    refine (drawPermUnder_any _ _ _ _ zC dC cC).mono ?_
    rintro e w1 ⟨roP, rcP, lP, roQ, rcQ, lQ, h1, h8, k1, k8, rfl, c_P, c_Q, hb⟩
    have hB := hb
    clear hb
    have LP : lP.length ≤ 1048576 := by omega
    have LQ : lQ.length ≤ 1048576 := by omega
    cases hp : bothP lP lQ
    · -- none
      have HI := Lib.hid (fun w c d => implPermUnder_any roP roQ rcP rcQ lP lQ w LP LQ c d)
      have HS := Lib.hid (fun w c d => specPermUnder_any roP roQ rcP rcQ lP lQ w LP LQ c d)
      rw [hp, show underO lP lQ = [] by unfold underO; rw [hp]; rfl] at HI HS
      clear hp
      go_wp2_with fail
      refine (HI.out _ c_P c_Q).mono ?_
      rintro e w2 ⟨⟨roO, rcO, rfl, ow⟩, hb⟩
      replace c_P := c_P.below hb
      replace c_Q := c_Q.below hb
      replace hB := below_step hB hB.size hb
      clear hb
      have c_O := owns_cells ow
      clear ow
      go_wp2_with fail
      refine (HS.out _ c_P c_Q).mono ?_
      rintro e w3 ⟨⟨roW, rcW, rfl, ow⟩, hb⟩
      replace c_P := c_P.below hb
      replace c_Q := c_Q.below hb
      replace c_O := c_O.below hb
      replace hB := below_step hB hB.size hb
      clear hb
      have c_W := owns_cells ow
      clear ow
      go_wp2_with fail
      refine (sameInts_any _ _ _ _ _ _ [] [] _ rfl rfl (Nat.zero_le _) c_O c_W).mono ?_
      rw [eqI_self]
      rintro e w4 ⟨rfl, hq⟩
      have hb := quiet_below hq
      clear hq
      replace c_P := c_P.below hb
      replace c_Q := c_Q.below hb
      replace c_O := c_O.below hb
      replace c_W := c_W.below hb
      replace hB := below_step hB hB.size hb
      clear hb
      go_wp2_with fail
      refine (sameInts_any _ _ _ _ _ _ [] [] _ rfl rfl (Nat.zero_le _) c_O c_W).mono ?_
      rw [eqI_self]
      rintro e w5 ⟨rfl, hq⟩
      have hb := quiet_below hq
      clear hq
      replace c_P := c_P.below hb
      replace c_Q := c_Q.below hb
      replace c_O := c_O.below hb
      replace c_W := c_W.below hb
      replace hB := below_step hB hB.size hb
      clear hb
      go_wp2
      go_ret
      exact ⟨rfl, hB⟩
    · -- two permutations
      have HI := Lib.hid (fun w c d => implPermUnder_any roP roQ rcP rcQ lP lQ w LP LQ c d)
      have HS := Lib.hid (fun w c d => specPermUnder_any roP roQ rcP rcQ lP lQ w LP LQ c d)
      obtain ⟨iP, iQ, h7⟩ := bothP_yes hp
      have fP := isP_few iP
      have fQ := isP_few iQ
      obtain ⟨R, hR⟩ : ∃ R, underL lP lQ = R := ⟨_, rfl⟩
      obtain ⟨A, hA⟩ : ∃ A, lP.reverse = A := ⟨_, rfl⟩
      obtain ⟨B, hBB⟩ : ∃ B, lQ.reverse = B := ⟨_, rfl⟩
      obtain ⟨X, hX⟩ : ∃ X, R.reverse = X := ⟨_, rfl⟩
      have hAl : A.length = lP.length := by rw [← hA, List.length_reverse]
      have hBl : B.length = lQ.length := by rw [← hBB, List.length_reverse]
      have hXA : asideL A B = X := by rw [← hX, ← hR, under_rev, List.reverse_reverse, hA, hBB]
      have hRl : R.length = lP.length + lQ.length := by rw [← hR, underL_len]
      have hXl : X.length = R.length := by rw [← hX, List.length_reverse]
      have iA : isP A = true := by rw [← hA]; exact isP_mk fP.rev (by rw [List.length_reverse]; omega)
      have iB : isP B = true := by rw [← hBB]; exact isP_mk fQ.rev (by rw [List.length_reverse]; omega)
      have iR : isP R = true := by rw [← hR]; exact isP_mk (fP.under fQ h7) (by rw [underL_len]; omega)
      have bAB : bothP A B = true := by unfold bothP; rw [iA, iB, Bool.true_and, Bool.true_and, decide_eq_true_eq]; omega
      rw [hp, show underO lP lQ = R by unfold underO; rw [hp]; exact hR] at HI HS
      have hR8 : R.length ≤ 7 := by omega
      have hX8 : X.length ≤ 7 := by omega
      have HBP := Lib.hid (fun w c => implPermBack_any roP rcP lP w LP c)
      have HBQ := Lib.hid (fun w c => implPermBack_any roQ rcQ lQ w LQ c)
      have HBR := Lib.hid (fun ro rc w (c : CellsAt w ro (R.map (Value.int .i64))) => implPermBack_any ro rc R w (by omega) c)
      have HAB := Lib.hid (fun ao bo ca cb w (c : CellsAt w ao (A.map (Value.int .i64))) (d : CellsAt w bo (B.map (Value.int .i64))) => implPermAside_any ao bo ca cb A B w (by omega) (by omega) c d)
      rw [iP, show backO lP = A by unfold backO; rw [orNil_yes iP]; exact hA] at HBP
      rw [iQ, show backO lQ = B by unfold backO; rw [orNil_yes iQ]; exact hBB] at HBQ
      rw [iR, show backO R = X by unfold backO; rw [orNil_yes iR]; exact hX] at HBR
      rw [bAB, show asideO A B = X by unfold asideO; rw [bAB]; exact hXA] at HAB
      clear hp hR hA hBB hX hXA hRl hXl iA iB iR bAB iP iQ fP fQ hAl hBl
      go_wp2_with fail
      refine (HI.out _ c_P c_Q).mono ?_
      rintro e w6 ⟨⟨roO, rcO, rfl, ow⟩, hb⟩
      replace c_P := c_P.below hb
      replace c_Q := c_Q.below hb
      replace hB := below_step hB hB.size hb
      clear hb
      have c_O := owns_cells ow
      clear ow
      go_wp2_with fail
      refine (HS.out _ c_P c_Q).mono ?_
      rintro e w7 ⟨⟨roW, rcW, rfl, ow⟩, hb⟩
      replace c_P := c_P.below hb
      replace c_Q := c_Q.below hb
      replace c_O := c_O.below hb
      replace hB := below_step hB hB.size hb
      clear hb
      have c_W := owns_cells ow
      clear ow
      go_wp2_with fail
      refine (sameInts_any _ _ _ _ _ _ R R _ rfl rfl (by unfold maxLen; omega) c_O c_W).mono ?_
      rw [eqI_self]
      rintro e w8 ⟨rfl, hq⟩
      have hb := quiet_below hq
      clear hq
      replace c_P := c_P.below hb
      replace c_Q := c_Q.below hb
      replace c_O := c_O.below hb
      replace c_W := c_W.below hb
      replace hB := below_step hB hB.size hb
      clear hb
      go_wp2_with fail
      refine (HBP.out _ c_P).mono ?_
      rintro e w9 ⟨⟨roA, rcA, rfl, ow⟩, hb⟩
      replace c_P := c_P.below hb
      replace c_Q := c_Q.below hb
      replace c_O := c_O.below hb
      replace c_W := c_W.below hb
      replace hB := below_step hB hB.size hb
      clear hb
      have c_A := owns_cells ow
      clear ow
      go_wp2_with fail
      refine (HBQ.out _ c_Q).mono ?_
      rintro e w10 ⟨⟨roB, rcB, rfl, ow⟩, hb⟩
      replace c_P := c_P.below hb
      replace c_Q := c_Q.below hb
      replace c_O := c_O.below hb
      replace c_W := c_W.below hb
      replace c_A := c_A.below hb
      replace hB := below_step hB hB.size hb
      clear hb
      have c_B := owns_cells ow
      clear ow
      go_wp2_with fail
      refine (HBR.out _ _ _ c_O).mono ?_
      rintro e w11 ⟨⟨roX, rcX, rfl, ow⟩, hb⟩
      replace c_P := c_P.below hb
      replace c_Q := c_Q.below hb
      replace c_O := c_O.below hb
      replace c_W := c_W.below hb
      replace c_A := c_A.below hb
      replace c_B := c_B.below hb
      replace hB := below_step hB hB.size hb
      clear hb
      have c_X := owns_cells ow
      clear ow
      go_wp2_with fail
      refine (HAB.out _ _ _ _ _ c_A c_B).mono ?_
      rintro e w12 ⟨⟨roY, rcY, rfl, ow⟩, hb⟩
      replace c_P := c_P.below hb
      replace c_Q := c_Q.below hb
      replace c_O := c_O.below hb
      replace c_W := c_W.below hb
      replace c_A := c_A.below hb
      replace c_B := c_B.below hb
      replace c_X := c_X.below hb
      replace hB := below_step hB hB.size hb
      clear hb
      have c_Y := owns_cells ow
      clear ow
      go_wp2_with fail
      refine (sameInts_any _ _ _ _ _ _ X X _ rfl rfl (by unfold maxLen; omega) c_X c_Y).mono ?_
      rw [eqI_self]
      rintro e w13 ⟨rfl, hq⟩
      have hb := quiet_below hq
      clear hq
      replace c_P := c_P.below hb
      replace c_Q := c_Q.below hb
      replace c_O := c_O.below hb
      replace c_W := c_W.below hb
      replace c_A := c_A.below hb
      replace c_B := c_B.below hb
      replace c_X := c_X.below hb
      replace c_Y := c_Y.below hb
      replace hB := below_step hB hB.size hb
      clear hb
      go_wp2
      go_ret
      exact ⟨rfl, hB⟩
  · have hdC : decide (1048576 < (lC.length : Int)) = true := by rw [decide_eq_true_eq]; omega
    go_enter Try.func9, Try.ntmps9
    go_wp2
    go_ret
    exact ⟨rfl, Below.refl _ _⟩

set_option maxRecDepth 100000 in
theorem fnUnderPerm_lifted (os : Os) (started : os.Started) (H : Type) (enc : TypeId × Value → H) :
    ReturnsInHanded {} Try.checked os 9 .any (Rows.fnUnderPermSpec.pre6 enc Try.prog Try.f9 Rows.fnUnderPermRow.domain false) (Rows.fnUnderPermSpec.post enc Try.prog Try.f9 false true false false) := by
  refine returnsInHanded_of_change (C := Try.checked) Try.own started (by kernel_rfl) Try.func9
    (ChangeSpec.witness6 (enc := enc) (C := Try.checked) false ⟨#[], #[.slice none 0 0], []⟩ 8 (by kernel_rfl) (by kernel_rfl) (by kernel_rfl) (by kernel_rfl)) ?_
  intro W base args ds gs before hval0 hW _ _
  have hval : ∀ (j : Nat) t v, Try.f9.params[j]? = some t → args[j]? = some v → Value.okWide Try.prog W .any base t v := hval0
  have hW' := hW
  obtain ⟨p, q, hA0, hV, rfl, _, _⟩ := hW
  have hA : DataW.TrodAll enc Try.prog W 0 (fun _ => true) true Try.f9.params.toList args.toList ds p := hA0
  rw [Try.params9] at hA hval
  obtain ⟨v0, d0, rfl, rfl, h0⟩ := trodAll_one hA
  obtain ⟨rfl, rfl⟩ := trodVars_none hV
  obtain ⟨aC, eC, kC, rfl⟩ := okWide_slice Try.underlying22 (hval 0 22 v0 rfl rfl)
  clear hA0 hval0
  simp only [List.append_nil] at hW'
  have hlt0 : ∀ x ∈ p, x.block < W.heap.size := fun x hx => by simpa using hW'.lt x (by simp [hx])
  obtain ⟨lC, rfl, mC, zC, cC⟩ := open_bytes h0
  refine (fnUnderPerm_all aC kC lC W mC zC cC).mono fun e W' ⟨he, hb⟩ => ?_
  subst he
  refine ⟨_, rfl, _, _, _, [], _, [], hW', trodAll_mk1 (shut_bool Try.underlying4 _), trodAll_mk1 (Below.trod Try.laidOut (by kernel_rfl) (of_decide_eq_true (by kernel_rfl)) h0 hb hlt0), rfl, hb.frame _, fun h => by cases h⟩

theorem fnUnderPerm_holds : Rows.FnUnderPermSaid :=
  OpenClaim.holds_of_wide 9 Try.f9 rfl rfl rfl rfl rfl rfl rfl ⟨rfl, rfl, rfl, rfl, rfl⟩ rfl rfl rfl rfl rfl (by kernel_rfl) Try.func9 (by kernel_rfl)
    (of_decide_eq_true (by kernel_rfl)) (by unfold Func.isWrapper; first | (rw [if_pos (by decide +kernel)]; kernel_rfl) | (rw [if_neg (by decide +kernel)]; exact ⟨rfl, rfl⟩))
    (fun os started H enc _ => fnUnderPerm_lifted os started H enc)

end Go.Proofs.Ytnkfopnkgingpaa
