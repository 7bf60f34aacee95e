
/-
  For every slice of bytes the law FnAside returns true, and the slice reads behind the call as it read before. No condition.
-/
import Derived.Test.YtnkfopnkgingpaaSevY
import Derived.Test.YtnkfopnkgingpaaSevAB
import Derived.Test.YtnkfopnkgingpaaSevAC
import Derived.Test.YtnkfopnkgingpaaCalm
import Derived.Test.YtnkfopnkgingpaaNumA
import Derived.Test.YtnkfopnkgingpaaPick
import Derived.Test.YtnkfopnkgingpaaLawK
namespace Go.Proofs.Ytnkfopnkgingpaa
open Go.ChangeShapes Go.WideShapes Go.ChangeAt Go.RowKit

set_option maxRecDepth 100000 in
set_option maxHeartbeats 4000000 in
theorem fnAside_all (aC : Option Addr) (kC : Nat) (lC : List UInt8) (w : World) (mC : lC.length ≤ maxLen) (zC : lC.length ≤ kC) (cC : CellsAt w aC (lC.map byteV)) :
    Calls Try.prog 8 #[.slice aC lC.length kC] w fun e w' => e = .returned (.bool true) ∧ Below w.heap.size w w' := by
  have mC2 := mC
  clear mC2
  by_cases dC : lC.length ≤ 1048576
  · have hdC : decide (1048576 < (lC.length : Int)) = false := by rw [decide_eq_false_iff_not]; omega
    go_enter Try.func8, Try.ntmps8
    go_wp2_with fail
    refine (drawPermAside_any _ _ _ _ zC dC cC).mono ?_
    rintro e w1 ⟨roP, rcP, lP, roQ, rcQ, lQ, h1, h8, k1, k8, rfl, c_P, c_Q, hb⟩
    have hB := hb
    clear hb
    have LP : lP.length ≤ 1048576 := by omega
    have LQ : lQ.length ≤ 1048576 := by omega
    cases hp : bothP lP lQ
    · -- none
      have HI := Lib.hid (fun w c d => implPermAside_any roP roQ rcP rcQ lP lQ w LP LQ c d)
      have HS := Lib.hid (fun w c d => specPermAside_any roP roQ rcP rcQ lP lQ w LP LQ c d)
      rw [hp, show asideO lP lQ = [] by unfold asideO; rw [hp]; rfl] at HI HS
      clear hp
      go_wp2_with fail
      refine (HI.out _ c_P c_Q).mono ?_
      rintro e w2 ⟨⟨roO, rcO, rfl, ow⟩, hb⟩
      replace c_P := c_P.below hb
      replace c_Q := c_Q.below hb
      replace hB := below_step hB hB.size hb
      clear hb
      have c_O := owns_cells ow
      clear ow
      go_wp2_with fail
      refine (HS.out _ c_P c_Q).mono ?_
      rintro e w3 ⟨⟨roW, rcW, rfl, ow⟩, hb⟩
      replace c_P := c_P.below hb
      replace c_Q := c_Q.below hb
      replace c_O := c_O.below hb
      replace hB := below_step hB hB.size hb
      clear hb
      have c_W := owns_cells ow
      clear ow
      go_wp2_with fail
      refine (sameInts_any _ _ _ _ _ _ [] [] _ rfl rfl (Nat.zero_le _) c_O c_W).mono ?_
      rw [eqI_self]
      rintro e w4 ⟨rfl, hq⟩
      have hb := quiet_below hq
      clear hq
      replace c_P := c_P.below hb
      replace c_Q := c_Q.below hb
      replace c_O := c_O.below hb
      replace c_W := c_W.below hb
      replace hB := below_step hB hB.size hb
      clear hb
      go_wp2_with fail
      refine (sameInts_any _ _ _ _ _ _ [] [] _ rfl rfl (Nat.zero_le _) c_O c_W).mono ?_
      rw [eqI_self]
      rintro e w5 ⟨rfl, hq⟩
      have hb := quiet_below hq
      clear hq
      replace c_P := c_P.below hb
      replace c_Q := c_Q.below hb
      replace c_O := c_O.below hb
      replace c_W := c_W.below hb
      replace hB := below_step hB hB.size hb
      clear hb
      go_wp2
      go_ret
      exact ⟨rfl, hB⟩
    · -- two permutations
      have HI := Lib.hid (fun w c d => implPermAside_any roP roQ rcP rcQ lP lQ w LP LQ c d)
      have HS := Lib.hid (fun w c d => specPermAside_any roP roQ rcP rcQ lP lQ w LP LQ c d)
      obtain ⟨iP, iQ, h7⟩ := bothP_yes hp
      have fP := isP_few iP
      have fQ := isP_few iQ
      obtain ⟨R, hR⟩ : ∃ R, asideL lP lQ = R := ⟨_, rfl⟩
      have hRl : R.length = lP.length + lQ.length := by rw [← hR, asideL_len]
      have hRf : isP R = true := by rw [← hR]; exact isP_mk (fP.aside fQ h7) (by rw [asideL_len]; omega)
      have hfa : fairO R = (fairO lP && fairO lQ) := by unfold fairO; rw [hRf, iP, iQ, Bool.true_and, Bool.true_and, Bool.true_and, ← hR]; exact fairB_aside fP fQ
      have hlo : looseO R = (looseO lP && looseO lQ) := by unfold looseO; rw [hRf, iP, iQ, Bool.true_and, Bool.true_and, Bool.true_and, ← hR]; exact looseB_aside fP fQ
      rw [hp, show asideO lP lQ = R by unfold asideO; rw [hp]; exact hR] at HI HS
      have hR8 : R.length ≤ 7 := by omega
      have HIR := Lib.hid (fun ro rc w (c : CellsAt w ro (R.map (Value.int .i64))) => implPermIn_any ro rc R w (by omega) c)
      have HFR := Lib.hid (fun ro rc w (c : CellsAt w ro (R.map (Value.int .i64))) => implPermFair_any ro rc R w (by omega) c)
      have HLR := Lib.hid (fun ro rc w (c : CellsAt w ro (R.map (Value.int .i64))) => implPermLoose_any ro rc R w (by omega) c)
      have HFP := Lib.hid (fun w c => implPermFair_any roP rcP lP w LP c)
      have HFQ := Lib.hid (fun w c => implPermFair_any roQ rcQ lQ w LQ c)
      have HLP := Lib.hid (fun w c => implPermLoose_any roP rcP lP w LP c)
      have HLQ := Lib.hid (fun w c => implPermLoose_any roQ rcQ lQ w LQ c)
      rw [hRf] at HIR
      rw [hfa] at HFR
      rw [hlo] at HLR
      clear hRf hfa hlo hp hR fP fQ iP iQ hRl
      generalize fairO lP = x at *
      generalize fairO lQ = y at *
      generalize looseO lP = u at *
      generalize looseO lQ = v at *
      go_wp2_with fail
      refine (HI.out _ c_P c_Q).mono ?_
      rintro e w6 ⟨⟨roO, rcO, rfl, ow⟩, hb⟩
      replace c_P := c_P.below hb
      replace c_Q := c_Q.below hb
      replace hB := below_step hB hB.size hb
      clear hb
      have c_O := owns_cells ow
      clear ow
      go_wp2_with fail
      refine (HS.out _ c_P c_Q).mono ?_
      rintro e w7 ⟨⟨roW, rcW, rfl, ow⟩, hb⟩
      replace c_P := c_P.below hb
      replace c_Q := c_Q.below hb
      replace c_O := c_O.below hb
      replace hB := below_step hB hB.size hb
      clear hb
      have c_W := owns_cells ow
      clear ow
      go_wp2_with fail
      refine (sameInts_any _ _ _ _ _ _ R R _ rfl rfl (by unfold maxLen; omega) c_O c_W).mono ?_
      rw [eqI_self]
      rintro e w8 ⟨rfl, hq⟩
      have hb := quiet_below hq
      clear hq
      replace c_P := c_P.below hb
      replace c_Q := c_Q.below hb
      replace c_O := c_O.below hb
      replace c_W := c_W.below hb
      replace hB := below_step hB hB.size hb
      clear hb
      go_wp2_with fail
      refine (HIR.out _ _ _ c_O).mono ?_
      rintro e w9 ⟨rfl, hb⟩
      replace c_P := c_P.below hb
      replace c_Q := c_Q.below hb
      replace c_O := c_O.below hb
      replace c_W := c_W.below hb
      replace hB := below_step hB hB.size hb
      clear hb
      go_wp2_with fail
      refine (HFR.out _ _ _ c_O).mono ?_
      rintro e w10 ⟨rfl, hb⟩
      replace c_P := c_P.below hb
      replace c_Q := c_Q.below hb
      replace c_O := c_O.below hb
      replace c_W := c_W.below hb
      replace hB := below_step hB hB.size hb
      clear hb
      go_wp2_with fail
      refine (HFP.out _ c_P).mono ?_
      rintro e w11 ⟨rfl, hb⟩
      replace c_P := c_P.below hb
      replace c_Q := c_Q.below hb
      replace c_O := c_O.below hb
      replace c_W := c_W.below hb
      replace hB := below_step hB hB.size hb
      clear hb
      cases x
      · skip
        go_wp2_with fail
        refine (HLR.out _ _ _ c_O).mono ?_
        rintro e w12 ⟨rfl, hb⟩
        replace c_P := c_P.below hb
        replace c_Q := c_Q.below hb
        replace c_O := c_O.below hb
        replace c_W := c_W.below hb
        replace hB := below_step hB hB.size hb
        clear hb
        go_wp2_with fail
        refine (HLP.out _ c_P).mono ?_
        rintro e w13 ⟨rfl, hb⟩
        replace c_P := c_P.below hb
        replace c_Q := c_Q.below hb
        replace c_O := c_O.below hb
        replace c_W := c_W.below hb
        replace hB := below_step hB hB.size hb
        clear hb
        cases u
        · skip
          go_wp2
          go_ret
          exact ⟨rfl, hB⟩
        · skip
          go_wp2_with fail
          refine (HLQ.out _ c_Q).mono ?_
          rintro e w14 ⟨rfl, hb⟩
          replace c_P := c_P.below hb
          replace c_Q := c_Q.below hb
          replace c_O := c_O.below hb
          replace c_W := c_W.below hb
          replace hB := below_step hB hB.size hb
          clear hb
          cases v
          · skip
            go_wp2
            go_ret
            exact ⟨rfl, hB⟩
          · skip
            go_wp2
            go_ret
            exact ⟨rfl, hB⟩
      · skip
        go_wp2_with fail
        refine (HFQ.out _ c_Q).mono ?_
        rintro e w12 ⟨rfl, hb⟩
        replace c_P := c_P.below hb
        replace c_Q := c_Q.below hb
        replace c_O := c_O.below hb
        replace c_W := c_W.below hb
        replace hB := below_step hB hB.size hb
        clear hb
        cases y
        · skip
          go_wp2_with fail
          refine (HLR.out _ _ _ c_O).mono ?_
          rintro e w13 ⟨rfl, hb⟩
          replace c_P := c_P.below hb
          replace c_Q := c_Q.below hb
          replace c_O := c_O.below hb
          replace c_W := c_W.below hb
          replace hB := below_step hB hB.size hb
          clear hb
          go_wp2_with fail
          refine (HLP.out _ c_P).mono ?_
          rintro e w14 ⟨rfl, hb⟩
          replace c_P := c_P.below hb
          replace c_Q := c_Q.below hb
          replace c_O := c_O.below hb
          replace c_W := c_W.below hb
          replace hB := below_step hB hB.size hb
          clear hb
          cases u
          · skip
            go_wp2
            go_ret
            exact ⟨rfl, hB⟩
          · skip
            go_wp2_with fail
            refine (HLQ.out _ c_Q).mono ?_
            rintro e w15 ⟨rfl, hb⟩
            replace c_P := c_P.below hb
            replace c_Q := c_Q.below hb
            replace c_O := c_O.below hb
            replace c_W := c_W.below hb
            replace hB := below_step hB hB.size hb
            clear hb
            cases v
            · skip
              go_wp2
              go_ret
              exact ⟨rfl, hB⟩
            · skip
              go_wp2
              go_ret
              exact ⟨rfl, hB⟩
        · skip
          go_wp2_with fail
          refine (HLR.out _ _ _ c_O).mono ?_
          rintro e w13 ⟨rfl, hb⟩
          replace c_P := c_P.below hb
          replace c_Q := c_Q.below hb
          replace c_O := c_O.below hb
          replace c_W := c_W.below hb
          replace hB := below_step hB hB.size hb
          clear hb
          go_wp2_with fail
          refine (HLP.out _ c_P).mono ?_
          rintro e w14 ⟨rfl, hb⟩
          replace c_P := c_P.below hb
          replace c_Q := c_Q.below hb
          replace c_O := c_O.below hb
          replace c_W := c_W.below hb
          replace hB := below_step hB hB.size hb
          clear hb
          cases u
          · skip
            go_wp2
            go_ret
            exact ⟨rfl, hB⟩
          · skip
            go_wp2_with fail
            refine (HLQ.out _ c_Q).mono ?_
            rintro e w15 ⟨rfl, hb⟩
            replace c_P := c_P.below hb
            replace c_Q := c_Q.below hb
            replace c_O := c_O.below hb
            replace c_W := c_W.below hb
            replace hB := below_step hB hB.size hb
            clear hb
            cases v
            · skip
              go_wp2
              go_ret
              exact ⟨rfl, hB⟩
            · skip
              go_wp2
              go_ret
              exact ⟨rfl, hB⟩
  · have hdC : decide (1048576 < (lC.length : Int)) = true := by rw [decide_eq_true_eq]; omega
    go_enter Try.func8, Try.ntmps8
    go_wp2
    go_ret
    exact ⟨rfl, Below.refl _ _⟩

set_option maxRecDepth 100000 in
theorem fnAside_lifted (os : Os) (started : os.Started) (H : Type) (enc : TypeId × Value → H) :
    ReturnsInHanded {} Try.checked os 8 .any (Rows.fnAsideSpec.pre6 enc Try.prog Try.f8 Rows.fnAsideRow.domain false) (Rows.fnAsideSpec.post enc Try.prog Try.f8 false true false false) := by
  refine returnsInHanded_of_change (C := Try.checked) Try.own started (by kernel_rfl) Try.func8
    (ChangeSpec.witness6 (enc := enc) (C := Try.checked) false ⟨#[], #[.slice none 0 0], []⟩ 8 (by kernel_rfl) (by kernel_rfl) (by kernel_rfl) (by kernel_rfl)) ?_
  intro W base args ds gs before hval0 hW _ _
  have hval : ∀ (j : Nat) t v, Try.f8.params[j]? = some t → args[j]? = some v → Value.okWide Try.prog W .any base t v := hval0
  have hW' := hW
  obtain ⟨p, q, hA0, hV, rfl, _, _⟩ := hW
  have hA : DataW.TrodAll enc Try.prog W 0 (fun _ => true) true Try.f8.params.toList args.toList ds p := hA0
  rw [Try.params8] at hA hval
  obtain ⟨v0, d0, rfl, rfl, h0⟩ := trodAll_one hA
  obtain ⟨rfl, rfl⟩ := trodVars_none hV
  obtain ⟨aC, eC, kC, rfl⟩ := okWide_slice Try.underlying22 (hval 0 22 v0 rfl rfl)
  clear hA0 hval0
  simp only [List.append_nil] at hW'
  have hlt0 : ∀ x ∈ p, x.block < W.heap.size := fun x hx => by simpa using hW'.lt x (by simp [hx])
  obtain ⟨lC, rfl, mC, zC, cC⟩ := open_bytes h0
  refine (fnAside_all aC kC lC W mC zC cC).mono fun e W' ⟨he, hb⟩ => ?_
  subst he
  refine ⟨_, rfl, _, _, _, [], _, [], hW', trodAll_mk1 (shut_bool Try.underlying4 _), trodAll_mk1 (Below.trod Try.laidOut (by kernel_rfl) (of_decide_eq_true (by kernel_rfl)) h0 hb hlt0), rfl, hb.frame _, fun h => by cases h⟩

theorem fnAside_holds : Rows.FnAsideSaid :=
  OpenClaim.holds_of_wide 8 Try.f8 rfl rfl rfl rfl rfl rfl rfl ⟨rfl, rfl, rfl, rfl, rfl⟩ rfl rfl rfl rfl rfl (by kernel_rfl) Try.func8 (by kernel_rfl)
    (of_decide_eq_true (by kernel_rfl)) (by unfold Func.isWrapper; first | (rw [if_pos (by decide +kernel)]; kernel_rfl) | (rw [if_neg (by decide +kernel)]; exact ⟨rfl, rfl⟩))
    (fun os started H enc _ => fnAside_lifted os started H enc)

end Go.Proofs.Ytnkfopnkgingpaa
