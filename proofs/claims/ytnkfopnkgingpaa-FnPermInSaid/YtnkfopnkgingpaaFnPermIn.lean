
/-
  For every slice of bytes the law FnPermIn returns true, and the slice reads behind the call as it read before. No condition.
-/
import Derived.Test.YtnkfopnkgingpaaSevC
import Derived.Test.YtnkfopnkgingpaaSevP
import Derived.Test.YtnkfopnkgingpaaSort
import Derived.Test.YtnkfopnkgingpaaPermD
import Derived.Test.YtnkfopnkgingpaaNumA
import Derived.Test.YtnkfopnkgingpaaPick
import Derived.Test.YtnkfopnkgingpaaLawK
namespace Go.Proofs.Ytnkfopnkgingpaa
open Go.ChangeShapes Go.WideShapes Go.ChangeAt Go.RowKit

set_option maxRecDepth 100000 in
set_option maxHeartbeats 4000000 in
theorem fnPermIn_all (aC : Option Addr) (kC : Nat) (lC : List UInt8) (w : World) (mC : lC.length ≤ maxLen) (zC : lC.length ≤ kC) (cC : CellsAt w aC (lC.map byteV)) :
    Calls Try.prog 3 #[.slice aC lC.length kC] w fun e w' => e = .returned (.bool true) ∧ Below w.heap.size w w' := by
  have mC2 := mC
  clear mC2
  by_cases dC : lC.length ≤ 1048576
  · have hdC : decide (1048576 < (lC.length : Int)) = false := by rw [decide_eq_false_iff_not]; omega
    go_enter Try.func3, Try.ntmps3
    go_wp2_with fail
    refine (drawPermIn_any _ _ _ _ zC dC cC).mono ?_
    rintro e w1 ⟨roP, rcP, lP, h1, h8, rfl, c_P, hb⟩
    have hB := hb
    clear hb
    have LP : lP.length ≤ 1048576 := by omega
    cases hp : isP lP
    · -- none
      have HI := Lib.hid (fun w c => implPermIn_any roP rcP lP w LP c)
      have HS := Lib.hid (fun w c => specPermIn_any roP rcP lP w LP c)
      rw [hp] at HI HS
      clear hp
      go_wp2_with fail
      refine (HI.out _ c_P).mono ?_
      rintro e w2 ⟨rfl, hb⟩
      replace c_P := c_P.below hb
      replace hB := below_step hB hB.size hb
      clear hb
      go_wp2_with fail
      refine (HS.out _ c_P).mono ?_
      rintro e w3 ⟨rfl, hb⟩
      replace c_P := c_P.below hb
      replace hB := below_step hB hB.size hb
      clear hb
      go_wp2
      go_ret
      exact ⟨rfl, hB⟩
    · -- a permutation
      have HI := Lib.hid (fun w c => implPermIn_any roP rcP lP w LP c)
      have HS := Lib.hid (fun w c => specPermIn_any roP rcP lP w LP c)
      have hf := isP_few hp
      have HBK := Lib.hid (fun w c => implPermBack_any roP rcP lP w LP c)
      have HOT := Lib.hid (fun w c => implPermOther_any roP rcP lP w LP c)
      obtain ⟨R, hR⟩ : ∃ R, lP.reverse = R := ⟨_, rfl⟩
      obtain ⟨V, hV⟩ : ∃ V, invL lP = V := ⟨_, rfl⟩
      have hRl : R.length = lP.length := by rw [← hR, List.length_reverse]
      have hVl : V.length = lP.length := by rw [← hV, invL_len]
      have hRf : isP R = true := by rw [← hR]; exact isP_mk hf.rev (by rw [List.length_reverse]; exact isP_pos hp)
      have hVf : isP V = true := by rw [← hV]; exact isP_mk hf.inv (by rw [invL_len]; exact isP_pos hp)
      rw [hp, show backO lP = R by unfold backO; rw [orNil_yes hp]; exact hR] at HBK
      rw [hp, show otherO lP = V by unfold otherO; rw [orNil_yes hp]; exact hV] at HOT
      rw [hp] at HI HS
      have HIR := Lib.hid (fun ro rc w (c : CellsAt w ro (R.map (Value.int .i64))) => implPermIn_any ro rc R w (by omega) c)
      have HIV := Lib.hid (fun ro rc w (c : CellsAt w ro (V.map (Value.int .i64))) => implPermIn_any ro rc V w (by omega) c)
      rw [hRf] at HIR
      rw [hVf] at HIV
      have HSO := Lib.hid (fun (s : List Int) (hs : s.Perm lP) (ht : s.Pairwise (· ≤ ·)) => (sorted_same hs (List.Perm.refl _) hf.perm ht (upto_sorted lP.length) : s = upto lP.length))
      have HUP := Lib.hid (upto_len lP.length)
      clear hRf hVf hR hV hRl hVl hf hp
      go_wp2_with fail
      refine (HI.out _ c_P).mono ?_
      rintro e w4 ⟨rfl, hb⟩
      replace c_P := c_P.below hb
      replace hB := below_step hB hB.size hb
      clear hb
      go_wp2_with fail
      refine (HS.out _ c_P).mono ?_
      rintro e w5 ⟨rfl, hb⟩
      replace c_P := c_P.below hb
      replace hB := below_step hB hB.size hb
      clear hb
      go_wp2_with fail
      refine (HBK.out _ c_P).mono ?_
      rintro e w6 ⟨⟨roB, rcB, rfl, ow⟩, hb⟩
      replace c_P := c_P.below hb
      replace hB := below_step hB hB.size hb
      clear hb
      have c_B := owns_cells ow
      clear ow
      go_wp2_with fail
      refine (HOT.out _ c_P).mono ?_
      rintro e w7 ⟨⟨roO, rcO, rfl, ow⟩, hb⟩
      replace c_P := c_P.below hb
      replace c_B := c_B.below hb
      replace hB := below_step hB hB.size hb
      clear hb
      have c_O := owns_cells ow
      clear ow
      go_wp2_with fail
      refine (sorted_any _ _ _ _ h1 (by omega) c_P).mono ?_
      rintro e w8 ⟨ro_s, rc_s, s, rfl, c_s, hs1, hs2, hb⟩
      have hse := HSO.out s hs1 hs2
      subst hse
      replace c_P := c_P.below hb
      replace c_B := c_B.below hb
      replace c_O := c_O.below hb
      replace hB := below_step hB hB.size hb
      clear hb
      have HAT := Lib.hid (fun i (hi : i < lP.length) => upto_at hi)
      generalize upto lP.length = U at *
      have hU := HUP.out
      clear hs1 hs2
      go_wp2
      go_loop [11] (fun vi => ∃ i : Nat, i ≤ lP.length ∧ vi = .int .i64 i) (fun vi => lP.length - (intOf vi).toNat)
      case atStart => exact ⟨0, Nat.zero_le _, rfl⟩
      case round =>
        obtain ⟨i, hi, rfl⟩ := hrel
        by_cases hlt : i < lP.length
        · obtain ⟨bs, os, rfl, ks⟩ := c_s.int i (by omega)
          rw [HAT.out i hlt] at ks
          have HP := Lib.hid c_P; have HO := Lib.hid c_O; have HBB := Lib.hid c_B; have HSS := Lib.hid c_s
          clear c_P c_O c_B c_s
          go_wp2
          go_round
          case rel => exact ⟨i + 1, by omega, by go_num⟩
          case measure => simp [intOf]; omega
        · obtain rfl : i = lP.length := by omega
          clear hU
          go_wp2_with fail
          refine (HIR.out _ _ _ c_B).mono ?_
          rintro e w9 ⟨rfl, hb⟩
          replace c_P := c_P.below hb
          replace c_B := c_B.below hb
          replace c_O := c_O.below hb
          replace hB := below_step hB hB.size hb
          clear hb
          go_wp2_with fail
          refine (HIV.out _ _ _ c_O).mono ?_
          rintro e w10 ⟨rfl, hb⟩
          replace c_P := c_P.below hb
          replace c_B := c_B.below hb
          replace c_O := c_O.below hb
          replace hB := below_step hB hB.size hb
          clear hb
          go_wp2
          go_ret
          exact ⟨rfl, hB⟩
  · have hdC : decide (1048576 < (lC.length : Int)) = true := by rw [decide_eq_true_eq]; omega
    go_enter Try.func3, Try.ntmps3
    go_wp2
    go_ret
    exact ⟨rfl, Below.refl _ _⟩

set_option maxRecDepth 100000 in
theorem fnPermIn_lifted (os : Os) (started : os.Started) (H : Type) (enc : TypeId × Value → H) :
    ReturnsInHanded {} Try.checked os 3 .any (Rows.fnPermInSpec.pre6 enc Try.prog Try.f3 Rows.fnPermInRow.domain false) (Rows.fnPermInSpec.post enc Try.prog Try.f3 false true false false) := by
  refine returnsInHanded_of_change (C := Try.checked) Try.own started (by kernel_rfl) Try.func3
    (ChangeSpec.witness6 (enc := enc) (C := Try.checked) false ⟨#[], #[.slice none 0 0], []⟩ 8 (by kernel_rfl) (by kernel_rfl) (by kernel_rfl) (by kernel_rfl)) ?_
  intro W base args ds gs before hval0 hW _ _
  have hval : ∀ (j : Nat) t v, Try.f3.params[j]? = some t → args[j]? = some v → Value.okWide Try.prog W .any base t v := hval0
  have hW' := hW
  obtain ⟨p, q, hA0, hV, rfl, _, _⟩ := hW
  have hA : DataW.TrodAll enc Try.prog W 0 (fun _ => true) true Try.f3.params.toList args.toList ds p := hA0
  rw [Try.params3] at hA hval
  obtain ⟨v0, d0, rfl, rfl, h0⟩ := trodAll_one hA
  obtain ⟨rfl, rfl⟩ := trodVars_none hV
  obtain ⟨aC, eC, kC, rfl⟩ := okWide_slice Try.underlying22 (hval 0 22 v0 rfl rfl)
  clear hA0 hval0
  simp only [List.append_nil] at hW'
  have hlt0 : ∀ x ∈ p, x.block < W.heap.size := fun x hx => by simpa using hW'.lt x (by simp [hx])
  obtain ⟨lC, rfl, mC, zC, cC⟩ := open_bytes h0
  refine (fnPermIn_all aC kC lC W mC zC cC).mono fun e W' ⟨he, hb⟩ => ?_
  subst he
  refine ⟨_, rfl, _, _, _, [], _, [], hW', trodAll_mk1 (shut_bool Try.underlying4 _), trodAll_mk1 (Below.trod Try.laidOut (by kernel_rfl) (of_decide_eq_true (by kernel_rfl)) h0 hb hlt0), rfl, hb.frame _, fun h => by cases h⟩

theorem fnPermIn_holds : Rows.FnPermInSaid :=
  OpenClaim.holds_of_wide 3 Try.f3 rfl rfl rfl rfl rfl rfl rfl ⟨rfl, rfl, rfl, rfl, rfl⟩ rfl rfl rfl rfl rfl (by kernel_rfl) Try.func3 (by kernel_rfl)
    (of_decide_eq_true (by kernel_rfl)) (by unfold Func.isWrapper; first | (rw [if_pos (by decide +kernel)]; kernel_rfl) | (rw [if_neg (by decide +kernel)]; exact ⟨rfl, rfl⟩))
    (fun os started H enc _ => fnPermIn_lifted os started H enc)

end Go.Proofs.Ytnkfopnkgingpaa
