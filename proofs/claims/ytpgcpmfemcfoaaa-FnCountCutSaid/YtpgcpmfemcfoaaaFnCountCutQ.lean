/-
  For every slice of bytes the law FnCountCut returns true, and the slice reads behind the call as it read before. No condition.
-/
import Derived.Test.YtpgcpmfemcfoaaaCtnKQ
import Derived.Test.YtpgcpmfemcfoaaaPickQ
import Derived.Test.YtpgcpmfemcfoaaaLawKQ

namespace Go.Proofs.Ytpgcpmfemcfoaaa
open Go.ChangeShapes Go.WideShapes Go.ChangeAt Go.RowKit

set_option maxRecDepth 100000 in
set_option maxHeartbeats 4000000 in
theorem fnCountCut_all (aC : Option Addr) (kC : Nat) (lC : List UInt8) (w : World) (mC : lC.length ≤ maxLen) (zC : lC.length ≤ kC) (cC : CellsAt w aC (lC.map byteV)) :
    Calls Try.prog 6 #[.slice aC lC.length kC] w fun e w' => e = .returned (.bool true) ∧ Below w.heap.size w w' := by
  have mC2 := mC
  clear mC2
  by_cases dC : lC.length ≤ 1048576
  · have hdC : decide (1048576 < (lC.length : Int)) = false := by rw [decide_eq_false_iff_not]; omega
    go_enter Try.func6, Try.ntmps6
    go_wp2_with fail
    refine (drawCountCut_any _ _ _ _ zC dC cC).mono ?_
    rintro e w1 ⟨nX, nY, rfl, hd, hb⟩
    have hB := hb
    clear hb
    cases hp : frOk nX nY
    · -- no such size
      have HI := Lib.hid (fun w => implCountCut_any nX nY w)
      have HS := Lib.hid (fun w => specCountCut_any nX nY w)
      rw [hp, ctR_no hp] at HI HS
      clear hp
      go_wp2_with fail
      refine (HI.out _).mono ?_
      rintro e w2 ⟨⟨roO, rcO, rfl, ow⟩, hb⟩
      replace hB := below_step hB hB.size hb
      clear hb
      have c_O := owns_cells ow
      clear ow
      go_wp2_with fail
      refine (HS.out _).mono ?_
      rintro e w3 ⟨⟨roW, rcW, rfl, ow⟩, hb⟩
      replace c_O := c_O.below hb
      replace hB := below_step hB hB.size hb
      clear hb
      have c_W := owns_cells ow
      clear ow
      go_wp2_with fail
      refine (sameInts_any _ _ _ _ _ _ [] [] _ rfl rfl (by exact Nat.zero_le _) c_O c_W).mono ?_
      rw [eqI_self]
      rintro e w4 ⟨rfl, hq⟩
      have hb := quiet_below hq
      clear hq
      replace c_O := c_O.below hb
      replace c_W := c_W.below hb
      replace hB := below_step hB hB.size hb
      clear hb
      go_wp2_with fail
      refine (sameInts_any _ _ _ _ _ _ [] [] _ rfl rfl (by exact Nat.zero_le _) c_O c_W).mono ?_
      rw [eqI_self]
      rintro e w5 ⟨rfl, hq⟩
      have hb := quiet_below hq
      clear hq
      replace c_O := c_O.below hb
      replace c_W := c_W.below hb
      replace hB := below_step hB hB.size hb
      clear hb
      go_wp2
      go_ret
      exact ⟨rfl, hB⟩
    · -- a size
      obtain ⟨a, b, rfl, rfl, a1, a6, b1, b6, h9⟩ := frOk_dims hp
      have HI := Lib.hid (fun w => implCountCut_any (a : Int) (b : Int) w)
      have HS := Lib.hid (fun w => specCountCut_any (a : Int) (b : Int) w)
      rw [(ctR_yes a1 a6 b1 b6 h9).1, hp] at HI HS
      clear hp hd
      have hm36 : a * b ≤ 36 := by omega
      have hmc : ((a * b : Nat) : Int) = (a : Int) * (b : Int) := Int.natCast_mul _ _
      have H2 := Lib.hid (fun w => implCountRooms_any (a : Int) (b : Int) w)
      rw [(ctR_yes a1 a6 b1 b6 h9).1, (frOk_of a1 a6 b1 b6 h9).1] at H2
      have HFA := Lib.hid (fun i (hi : i < a * b + 1) => show (intsL (cntL (fun p => (treeP p).isSome) a b)).getD i 0 ≤ (intsL (cntL (fun _ => true) a b)).getD i 0 ∧ (i ≤ 4 → (intsL (cntL (fun p => (treeP p).isSome) a b)).getD i 0 = (intsL (cntL (fun _ => true) a b)).getD i 0) by
        obtain ⟨q1, q2⟩ := cutCount_math a1 a6 b1 b6 h9 i hi
        rw [ints_atC _ (by rw [cntL_len]; exact hi), ints_atC _ (by rw [cntL_len]; exact hi)]
        exact ⟨by omega, fun e => by rw [q2 e]⟩)
      have HLN := Lib.hid (show (intsL (cntL (fun p => (treeP p).isSome) a b)).length = a * b + 1 by rw [intsL_len, cntL_len])
      have HMN := Lib.hid (show (intsL (cntL (fun _ => true) a b)).length = a * b + 1 by rw [intsL_len, cntL_len])
      generalize intsL (cntL (fun p => (treeP p).isSome) a b) = L at *
      generalize intsL (cntL (fun _ => true) a b) = M at *
      clear hmc
      go_wp2_with fail
      refine (HI.out _).mono ?_
      rintro e w6 ⟨⟨roO, rcO, rfl, ow⟩, hb⟩
      replace hB := below_step hB hB.size hb
      clear hb
      have c_O := owns_cells ow
      clear ow
      go_wp2_with fail
      refine (HS.out _).mono ?_
      rintro e w7 ⟨⟨roW, rcW, rfl, ow⟩, hb⟩
      replace c_O := c_O.below hb
      replace hB := below_step hB hB.size hb
      clear hb
      have c_W := owns_cells ow
      clear ow
      go_wp2_with fail
      refine (sameInts_any _ _ _ _ _ _ L L _ rfl rfl (by have := HLN.out; unfold maxLen; omega) c_O c_W).mono ?_
      rw [eqI_self]
      rintro e w8 ⟨rfl, hq⟩
      have hb := quiet_below hq
      clear hq
      replace c_O := c_O.below hb
      replace c_W := c_W.below hb
      replace hB := below_step hB hB.size hb
      clear hb
      go_wp2_with fail
      refine (H2.out _).mono ?_
      rintro e w9 ⟨⟨roX, rcX, rfl, ow⟩, hb⟩
      replace c_O := c_O.below hb
      replace c_W := c_W.below hb
      replace hB := below_step hB hB.size hb
      clear hb
      have c_X := owns_cells ow
      clear ow
      have CX := Lib.hid c_X; have CO := Lib.hid c_O; have HB9 := Lib.hid hB
      clear c_O c_W c_X hB
      generalize a * b = N at *
      go_wp2
      go_loopw [11] (fun vi wr => ∃ i : Nat, i ≤ N + 1 ∧ vi = .int .i64 i ∧ Below w9.heap.size w9 wr) (fun vi _ => N + 1 - (intOf vi).toNat)
      case atStart => exact ⟨0, Nat.zero_le _, rfl, Below.refl _ _⟩
      case round =>
        obtain ⟨i, hi, rfl, hq⟩ := hrel
        by_cases hlt : i < N + 1
        · have hlt' : decide ((i : Int) < (L.length : Int)) = true := by rw [decide_eq_true_eq, HLN.out]; omega
          have i1 : (i : Int) < (L.length : Int) := by rw [HLN.out]; omega
          have j1 : (i : Int) < (M.length : Int) := by rw [HMN.out]; omega
          obtain ⟨bo, oo, rfl, ko⟩ := (CO.out.below hq).int i (by rw [HLN.out]; omega)
          obtain ⟨bx, ox, rfl, kx⟩ := (CX.out.below hq).int i (by rw [HMN.out]; omega)
          obtain ⟨f1, f2⟩ := HFA.out i hlt
          have i2 : i < L.length := by rw [HLN.out]; omega
          have i3 : i < M.length := by rw [HMN.out]; omega
          generalize L.getD i 0 = u at *
          generalize M.getD i 0 = v at *
          have hd1 : decide (u > v) = false := by rw [decide_eq_false_iff_not]; omega
          have hd2 : decide (v < u) = false := by rw [decide_eq_false_iff_not]; omega
          by_cases h4 : i ≤ 4
          · have hz : (u != v) = false := by rw [f2 h4]; simp
            have e1 : decide ((i : Int) ≤ 4) = true := by rw [decide_eq_true_eq]; omega
            have e2 : (i : Int) ≤ 4 := by omega
            go_wp2
            go_quiet (fail)
            go_wp2
            go_roundw
            case rel => exact ⟨i + 1, by omega, by go_num, by first | exact hq | exact below_step hq hq.size (below_drewN _ _ _)⟩
            case measure => simp [intOf]; omega
          · clear f2
            have e1 : decide ((i : Int) ≤ 4) = false := by rw [decide_eq_false_iff_not]; omega
            have e2 : ¬ (i : Int) ≤ 4 := by omega
            go_wp2
            go_quiet (fail)
            go_wp2
            go_roundw
            case rel => exact ⟨i + 1, by omega, by go_num, by first | exact hq | exact below_step hq hq.size (below_drewN _ _ _)⟩
            case measure => simp [intOf]; omega
        · obtain rfl : i = N + 1 := by omega
          have hlt' : decide (((N + 1 : Nat) : Int) < (L.length : Int)) = false := by rw [decide_eq_false_iff_not, HLN.out]; omega
          have hlt2 : ¬ (N + 1) < L.length := by rw [HLN.out]; omega
          have hlm : ((M.length : Int) == (L.length : Int)) = true := by rw [HLN.out, HMN.out]; simp
          have hB := below_step HB9.out HB9.out.size hq
          go_wp2
          go_ret
          exact ⟨rfl, hB⟩
  · have hdC : decide (1048576 < (lC.length : Int)) = true := by rw [decide_eq_true_eq]; omega
    go_enter Try.func6, Try.ntmps6
    go_wp2
    go_ret
    exact ⟨rfl, Below.refl _ _⟩

set_option maxRecDepth 100000 in
theorem fnCountCut_lifted (os : Os) (started : os.Started) (H : Type) (enc : TypeId × Value → H) :
    ReturnsInHanded {} Try.checked os 6 .any (Rows.fnCountCutSpec.pre6 enc Try.prog Try.f6 Rows.fnCountCutRow.domain false) (Rows.fnCountCutSpec.post enc Try.prog Try.f6 false true false false) := by
  refine returnsInHanded_of_change (C := Try.checked) Try.own started (by kernel_rfl) Try.func6
    (ChangeSpec.witness6 (enc := enc) (C := Try.checked) false ⟨#[], #[.slice none 0 0], []⟩ 8 (by kernel_rfl) (by kernel_rfl) (by kernel_rfl) (by kernel_rfl)) ?_
  intro W base args ds gs before hval0 hW _ _
  have hval : ∀ (j : Nat) t v, Try.f6.params[j]? = some t → args[j]? = some v → Value.okWide Try.prog W .any base t v := hval0
  have hW' := hW
  obtain ⟨p, q, hA0, hV, rfl, _, _⟩ := hW
  have hA : DataW.TrodAll enc Try.prog W 0 (fun _ => true) true Try.f6.params.toList args.toList ds p := hA0
  rw [Try.params6] at hA hval
  obtain ⟨v0, d0, rfl, rfl, h0⟩ := trodAll_one hA
  obtain ⟨rfl, rfl⟩ := trodVars_none hV
  obtain ⟨aC, eC, kC, rfl⟩ := okWide_slice Try.underlying22 (hval 0 22 v0 rfl rfl)
  clear hA0 hval0
  simp only [List.append_nil] at hW'
  have hlt0 : ∀ x ∈ p, x.block < W.heap.size := fun x hx => by simpa using hW'.lt x (by simp [hx])
  obtain ⟨lC, rfl, mC, zC, cC⟩ := open_bytes h0
  refine (fnCountCut_all aC kC lC W mC zC cC).mono fun e W' ⟨he, hb⟩ => ?_
  subst he
  refine ⟨_, rfl, _, _, _, [], _, [], hW', trodAll_mk1 (shut_bool Try.underlying4 _), trodAll_mk1 (Below.trod Try.laidOut (by kernel_rfl) (of_decide_eq_true (by kernel_rfl)) h0 hb hlt0), rfl, hb.frame _, fun h => by cases h⟩

theorem fnCountCut_holds : Rows.FnCountCutSaid :=
  OpenClaim.holds_of_wide 6 Try.f6 rfl rfl rfl rfl rfl rfl rfl ⟨rfl, rfl, rfl, rfl, rfl⟩ rfl rfl rfl rfl rfl (by kernel_rfl) Try.func6 (by kernel_rfl)
    (of_decide_eq_true (by kernel_rfl)) (by unfold Func.isWrapper; first | (rw [if_pos (by decide +kernel)]; kernel_rfl) | (rw [if_neg (by decide +kernel)]; exact ⟨rfl, rfl⟩))
    (fun os started H enc _ => fnCountCut_lifted os started H enc)

end Go.Proofs.Ytpgcpmfemcfoaaa
