
/-
  For every slice of bytes the law FnOther returns true, and the slice reads behind the call as it read before. No condition.
-/
import Derived.Test.YtnkfopnkgingpaaSevC
import Derived.Test.YtnkfopnkgingpaaSevF
import Derived.Test.YtnkfopnkgingpaaPermD
import Derived.Test.YtnkfopnkgingpaaNumA
import Derived.Test.YtnkfopnkgingpaaPick
import Derived.Test.YtnkfopnkgingpaaLawK
namespace Go.Proofs.Ytnkfopnkgingpaa
open Go.ChangeShapes Go.WideShapes Go.ChangeAt Go.RowKit

set_option maxRecDepth 100000 in
set_option maxHeartbeats 4000000 in
theorem fnOther_all (aC : Option Addr) (kC : Nat) (lC : List UInt8) (w : World) (mC : lC.length ≤ maxLen) (zC : lC.length ≤ kC) (cC : CellsAt w aC (lC.map byteV)) :
    Calls Try.prog 7 #[.slice aC lC.length kC] w fun e w' => e = .returned (.bool true) ∧ Below w.heap.size w w' := by
  have mC2 := mC
  clear mC2
  by_cases dC : lC.length ≤ 1048576
  · have hdC : decide (1048576 < (lC.length : Int)) = false := by rw [decide_eq_false_iff_not]; omega
    go_enter Try.func7, Try.ntmps7
    go_wp2_with fail
    refine (drawPermOther_any _ _ _ _ zC dC cC).mono ?_
    rintro e w1 ⟨roP, rcP, lP, h1, h8, rfl, c_P, hb⟩
    have hB := hb
    clear hb
    have LP : lP.length ≤ 1048576 := by omega
    cases hp : isP lP
    · -- none
      have HI := Lib.hid (fun w c => implPermOther_any roP rcP lP w LP c)
      have HS := Lib.hid (fun w c => specPermOther_any roP rcP lP w LP c)
      rw [hp, show otherO lP = [] by unfold otherO; rw [orNil_no hp]; rfl] at HI HS
      clear hp
      go_wp2_with fail
      refine (HI.out _ c_P).mono ?_
      rintro e w2 ⟨⟨roO, rcO, rfl, ow⟩, hb⟩
      replace c_P := c_P.below hb
      replace hB := below_step hB hB.size hb
      clear hb
      have c_O := owns_cells ow
      clear ow
      go_wp2_with fail
      refine (HS.out _ c_P).mono ?_
      rintro e w3 ⟨⟨roW, rcW, rfl, ow⟩, hb⟩
      replace c_P := c_P.below hb
      replace c_O := c_O.below hb
      replace hB := below_step hB hB.size hb
      clear hb
      have c_W := owns_cells ow
      clear ow
      go_wp2_with fail
      refine (sameInts_any _ _ _ _ _ _ [] [] _ rfl rfl (Nat.zero_le _) c_O c_W).mono ?_
      rw [eqI_self]
      rintro e w4 ⟨rfl, hq⟩
      have hb := quiet_below hq
      clear hq
      replace c_P := c_P.below hb
      replace c_O := c_O.below hb
      replace c_W := c_W.below hb
      replace hB := below_step hB hB.size hb
      clear hb
      go_wp2_with fail
      refine (sameInts_any _ _ _ _ _ _ [] [] _ rfl rfl (Nat.zero_le _) c_O c_W).mono ?_
      rw [eqI_self]
      rintro e w5 ⟨rfl, hq⟩
      have hb := quiet_below hq
      clear hq
      replace c_P := c_P.below hb
      replace c_O := c_O.below hb
      replace c_W := c_W.below hb
      replace hB := below_step hB hB.size hb
      clear hb
      go_wp2
      go_ret
      exact ⟨rfl, hB⟩
    · -- a permutation
      have HI := Lib.hid (fun w c => implPermOther_any roP rcP lP w LP c)
      have HS := Lib.hid (fun w c => specPermOther_any roP rcP lP w LP c)
      have hf := isP_few hp
      obtain ⟨R, hR⟩ : ∃ R, invL lP = R := ⟨_, rfl⟩
      have hRf : isP R = true := by rw [← hR]; exact isP_mk hf.inv (by rw [invL_len]; exact isP_pos hp)
      have hRl : R.length = lP.length := by rw [← hR]; rw [invL_len]
      have hRR : otherO R = lP := by unfold otherO; rw [orNil_yes hRf, ← hR]; exact inv_inv hf
      rw [hp, show otherO lP = R by unfold otherO; rw [orNil_yes hp]; exact hR] at HI HS
      have HB := Lib.hid (fun ro rc w (c : CellsAt w ro (R.map (Value.int .i64))) => implPermOther_any ro rc R w (by omega) c)
      rw [hRf, hRR] at HB
      have HAT := Lib.hid (show ∀ i, i < lP.length → ∃ x : Nat, lP.getD i 0 = x ∧ x < R.length ∧ R.getD x 0 = (i : Int) from fun i hi => by
        have hlo := hf.at hi
        obtain ⟨x, hx⟩ : ∃ x : Nat, lP.getD i 0 = x := ⟨(lP.getD i 0).toNat, by omega⟩
        obtain ⟨h1, h2⟩ := hf.inv_of hi hx
        exact ⟨x, hx, by rw [hRl]; exact h1, by rw [← hR]; exact h2⟩)
      have HRL := Lib.hid hRl
      clear hRf hRR hp hR hRl hf
      have hRb : R.length ≤ 8 := by have := HRL.out; omega
      go_wp2_with fail
      refine (HI.out _ c_P).mono ?_
      rintro e w6 ⟨⟨roO, rcO, rfl, ow⟩, hb⟩
      replace c_P := c_P.below hb
      replace hB := below_step hB hB.size hb
      clear hb
      have c_O := owns_cells ow
      clear ow
      go_wp2_with fail
      refine (HS.out _ c_P).mono ?_
      rintro e w7 ⟨⟨roW, rcW, rfl, ow⟩, hb⟩
      replace c_P := c_P.below hb
      replace c_O := c_O.below hb
      replace hB := below_step hB hB.size hb
      clear hb
      have c_W := owns_cells ow
      clear ow
      go_wp2_with fail
      refine (sameInts_any _ _ _ _ _ _ R R _ rfl rfl (by unfold maxLen; omega) c_O c_W).mono ?_
      rw [eqI_self]
      rintro e w8 ⟨rfl, hq⟩
      have hb := quiet_below hq
      clear hq
      replace c_P := c_P.below hb
      replace c_O := c_O.below hb
      replace c_W := c_W.below hb
      replace hB := below_step hB hB.size hb
      clear hb
      go_wp2_with fail
      refine (HB.out _ _ _ c_O).mono ?_
      rintro e w9 ⟨⟨roX, rcX, rfl, ow⟩, hb⟩
      replace c_P := c_P.below hb
      replace c_O := c_O.below hb
      replace c_W := c_W.below hb
      replace hB := below_step hB hB.size hb
      clear hb
      have c_X := owns_cells ow
      clear ow
      have hRlen := HRL.out
      go_wp2
      go_loop [10] (fun vi => ∃ i : Nat, i ≤ lP.length ∧ vi = .int .i64 i) (fun vi => lP.length - (intOf vi).toNat)
      case atStart => exact ⟨0, Nat.zero_le _, rfl⟩
      case round =>
        obtain ⟨i, hi, rfl⟩ := hrel
        by_cases hlt : i < lP.length
        · obtain ⟨x, hx, hxl, hxe⟩ := HAT.out i hlt
          obtain ⟨bP, oP, rfl, kP⟩ := c_P.int i hlt
          obtain ⟨bO, oO, rfl, kO⟩ := c_O.int x hxl
          rw [hx] at kP
          rw [hxe] at kO
          have HP := Lib.hid c_P; have HO := Lib.hid c_O; have HXX := Lib.hid c_X
          have hxI : (x : Int) < (lP.length : Int) := by omega
          have hx2 : x < lP.length := by omega
          clear c_P c_O c_X hx hxe hRlen
          go_wp2
          go_round
          case rel => exact ⟨i + 1, by omega, by go_num⟩
          case measure => simp [intOf]; omega
        · obtain rfl : i = lP.length := by omega
          clear hRlen
          go_wp2_with fail
          refine (sameInts_any _ _ _ _ _ _ lP lP _ rfl rfl (by unfold maxLen; omega) c_X c_P).mono ?_
          rw [eqI_self]
          rintro e w10 ⟨rfl, hq⟩
          have hb := quiet_below hq
          clear hq
          replace c_P := c_P.below hb
          replace c_O := c_O.below hb
          replace c_W := c_W.below hb
          replace c_X := c_X.below hb
          replace hB := below_step hB hB.size hb
          clear hb
          go_wp2
          go_ret
          exact ⟨rfl, hB⟩
  · have hdC : decide (1048576 < (lC.length : Int)) = true := by rw [decide_eq_true_eq]; omega
    go_enter Try.func7, Try.ntmps7
    go_wp2
    go_ret
    exact ⟨rfl, Below.refl _ _⟩

set_option maxRecDepth 100000 in
theorem fnOther_lifted (os : Os) (started : os.Started) (H : Type) (enc : TypeId × Value → H) :
    ReturnsInHanded {} Try.checked os 7 .any (Rows.fnOtherSpec.pre6 enc Try.prog Try.f7 Rows.fnOtherRow.domain false) (Rows.fnOtherSpec.post enc Try.prog Try.f7 false true false false) := by
  refine returnsInHanded_of_change (C := Try.checked) Try.own started (by kernel_rfl) Try.func7
    (ChangeSpec.witness6 (enc := enc) (C := Try.checked) false ⟨#[], #[.slice none 0 0], []⟩ 8 (by kernel_rfl) (by kernel_rfl) (by kernel_rfl) (by kernel_rfl)) ?_
  intro W base args ds gs before hval0 hW _ _
  have hval : ∀ (j : Nat) t v, Try.f7.params[j]? = some t → args[j]? = some v → Value.okWide Try.prog W .any base t v := hval0
  have hW' := hW
  obtain ⟨p, q, hA0, hV, rfl, _, _⟩ := hW
  have hA : DataW.TrodAll enc Try.prog W 0 (fun _ => true) true Try.f7.params.toList args.toList ds p := hA0
  rw [Try.params7] at hA hval
  obtain ⟨v0, d0, rfl, rfl, h0⟩ := trodAll_one hA
  obtain ⟨rfl, rfl⟩ := trodVars_none hV
  obtain ⟨aC, eC, kC, rfl⟩ := okWide_slice Try.underlying22 (hval 0 22 v0 rfl rfl)
  clear hA0 hval0
  simp only [List.append_nil] at hW'
  have hlt0 : ∀ x ∈ p, x.block < W.heap.size := fun x hx => by simpa using hW'.lt x (by simp [hx])
  obtain ⟨lC, rfl, mC, zC, cC⟩ := open_bytes h0
  refine (fnOther_all aC kC lC W mC zC cC).mono fun e W' ⟨he, hb⟩ => ?_
  subst he
  refine ⟨_, rfl, _, _, _, [], _, [], hW', trodAll_mk1 (shut_bool Try.underlying4 _), trodAll_mk1 (Below.trod Try.laidOut (by kernel_rfl) (of_decide_eq_true (by kernel_rfl)) h0 hb hlt0), rfl, hb.frame _, fun h => by cases h⟩

theorem fnOther_holds : Rows.FnOtherSaid :=
  OpenClaim.holds_of_wide 7 Try.f7 rfl rfl rfl rfl rfl rfl rfl ⟨rfl, rfl, rfl, rfl, rfl⟩ rfl rfl rfl rfl rfl (by kernel_rfl) Try.func7 (by kernel_rfl)
    (of_decide_eq_true (by kernel_rfl)) (by unfold Func.isWrapper; first | (rw [if_pos (by decide +kernel)]; kernel_rfl) | (rw [if_neg (by decide +kernel)]; exact ⟨rfl, rfl⟩))
    (fun os started H enc _ => fnOther_lifted os started H enc)

end Go.Proofs.Ytnkfopnkgingpaa
