
/-
  For every slice of bytes the law FnSplit returns true, and the slice reads behind the call as it read before. No condition.
-/
import Derived.Test.YtlbdkjhfnjofiaaSplitM
import Derived.Test.YtlbdkjhfnjofiaaDrawS
import Derived.Test.YtlbdkjhfnjofiaaIs
import Derived.Test.YtlbdkjhfnjofiaaDraw
import Derived.Test.YtlbdkjhfnjofiaaLaws
namespace Go.Proofs.Ytlbdkjhfnjofiaa
open Go.ChangeShapes Go.WideShapes Go.ChangeAt Go.RowKit

set_option maxRecDepth 100000 in
set_option maxHeartbeats 4000000 in
theorem fnSplit_all (aC : Option Addr) (kC : Nat) (lC : List UInt8) (w : World) (mC : lC.length ≤ maxLen) (zC : lC.length ≤ kC) (cC : CellsAt w aC (lC.map byteV)) :
    Calls Try.prog 4 #[.slice aC lC.length kC] w fun e w' => e = .returned (.bool true) ∧ Below w.heap.size w w' := by
  have mC2 := mC
  clear mC2
  by_cases dC : lC.length ≤ 1048576
  · have hdC : decide (1048576 < (lC.length : Int)) = false := by rw [decide_eq_false_iff_not]; omega
    go_enter Try.func4, Try.ntmps4
    go_wp2_with fail
    refine (drawPlanSplit_any _ _ _ _ zC dC cC).mono ?_
    rintro e w1 ⟨⟨roP, rcP, lP, room, letter, kk, hsm, rfl, c_P⟩, hb⟩
    have hB := hb
    clear hb
    have LP : lP.length ≤ 1048576 := by have := hsm.2.1; omega
    have SP : ∀ s ∈ lP, s.size ≤ 1048576 := fun s h => by have := hsm.2.2 s h; omega
    cases hd : doneO (splitT lP room letter kk)
    · -- no split
      have HI := Lib.hid (fun w c => implSplit_any roP rcP lP room kk letter w LP SP c)
      have HS := Lib.hid (fun w c => specSplit_any roP rcP lP room kk letter w LP SP c)
      rw [hd, namesO_no hd] at HI HS
      go_wp2_with fail
      refine (HI.out _ c_P).mono ?_
      rintro e w2 ⟨⟨roO, rcO, rfl, ow⟩, hb⟩
      replace c_P := c_P.below hb
      replace hB := below_step hB hB.size hb
      clear hb
      have c_O := owns_cells ow
      clear ow
      go_wp2_with fail
      refine (HS.out _ c_P).mono ?_
      rintro e w3 ⟨⟨roW, rcW, rfl, ow⟩, hb⟩
      replace c_P := c_P.below hb
      replace c_O := c_O.below hb
      replace hB := below_step hB hB.size hb
      clear hb
      have c_W := owns_cells ow
      clear ow
      go_wp2_with fail
      refine (sameTexts_any _ _ _ _ _ _ [] [] _ rfl rfl (Nat.zero_le _) c_O c_W).mono ?_
      rw [eqS_self]
      rintro e w4 ⟨rfl, hq⟩
      have hb := quiet_below hq
      clear hq
      replace c_P := c_P.below hb
      replace c_O := c_O.below hb
      replace c_W := c_W.below hb
      replace hB := below_step hB hB.size hb
      clear hb
      go_wp2_with fail
      refine (sameTexts_any _ _ _ _ _ _ [] [] _ rfl rfl (Nat.zero_le _) c_O c_W).mono ?_
      rw [eqS_self]
      rintro e w5 ⟨rfl, hq⟩
      have hb := quiet_below hq
      clear hq
      replace c_P := c_P.below hb
      replace c_O := c_O.below hb
      replace c_W := c_W.below hb
      replace hB := below_step hB hB.size hb
      clear hb
      go_wp2
      go_ret
      exact ⟨rfl, hB⟩
    · -- a split
      obtain ⟨hp, hO, R, hR9, hR, hN, MK, MT, Y, Z, HTR⟩ := split_tries hd
      have LO := plan_small hO
      have HI := Lib.hid (fun w c => implSplit_any roP rcP lP room kk letter w LP SP c)
      have HS := Lib.hid (fun w c => specSplit_any roP rcP lP room kk letter w LP SP c)
      have HR := Lib.hid (fun w c => implPlanRooms_any roP rcP lP w LP SP c)
      rw [hd] at HI HS
      rw [hp, hR] at HR
      clear hd
      generalize namesO (splitT lP room letter kk) = O at *
      have HQ := Lib.hid (fun ro rc w c => implPlanRooms_any ro rc O w LO.1 LO.2 c)
      rw [hO, hN] at HQ
      have HM := Lib.hid (fun (a b : Nat) ro rc w c => implMerge_any ro rc O a b w LO.1 LO.2 c)
      simp only [HTR.txt] at HM
      simp only [HTR.ok] at HM
      have LO1 := LO.1
      have HT := Lib.hid HTR
      clear LO hO hR hN hp HTR
      obtain ⟨N, hN⟩ : ∃ N, N = R + 1 := ⟨_, rfl⟩
      have h3 : ((N : Int) == (R : Int) + 1) = true := by rw [beq_iff_eq]; omega
      rw [← hN] at HQ HT
      have hN10 : N ≤ 10 := by omega
      clear hN
      go_wp2_with fail
      refine (HI.out _ c_P).mono ?_
      rintro e w6 ⟨⟨roO, rcO, rfl, ow⟩, hb⟩
      replace c_P := c_P.below hb
      replace hB := below_step hB hB.size hb
      clear hb
      have c_O := owns_cells ow
      clear ow
      go_wp2_with fail
      refine (HS.out _ c_P).mono ?_
      rintro e w7 ⟨⟨roW, rcW, rfl, ow⟩, hb⟩
      replace c_P := c_P.below hb
      replace c_O := c_O.below hb
      replace hB := below_step hB hB.size hb
      clear hb
      have c_W := owns_cells ow
      clear ow
      go_wp2_with fail
      refine (sameTexts_any _ _ _ _ _ _ O O _ rfl rfl (by unfold maxLen; omega) c_O c_W).mono ?_
      rw [eqS_self]
      rintro e w8 ⟨rfl, hq⟩
      have hb := quiet_below hq
      clear hq
      replace c_P := c_P.below hb
      replace c_O := c_O.below hb
      replace c_W := c_W.below hb
      replace hB := below_step hB hB.size hb
      clear hb
      go_wp2_with fail
      refine (HR.out _ c_P).mono ?_
      rintro e w9 ⟨rfl, hb⟩
      replace c_P := c_P.below hb
      replace c_O := c_O.below hb
      replace c_W := c_W.below hb
      replace hB := below_step hB hB.size hb
      clear hb
      go_wp2_with fail
      refine (HQ.out _ _ _ c_O).mono ?_
      rintro e w10 ⟨rfl, hb⟩
      replace c_P := c_P.below hb
      replace c_O := c_O.below hb
      replace c_W := c_W.below hb
      replace hB := below_step hB hB.size hb
      clear hb
      have CP := Lib.hid c_P; have CO := Lib.hid c_O; have HB9 := Lib.hid hB
      clear c_P c_O c_W hB
      obtain ⟨WK, hWK⟩ : ∃ WK, WK = w10 := ⟨_, rfl⟩
      clear hWK WK
      go_wp2
      go_loopw [15, 16] (fun vs vx wr => ∃ x : Nat, x ≤ N ∧ vx = .int .i64 x ∧ vs = .bool (Z x) ∧ Below w10.heap.size w10 wr) (fun _ vx _ => N - (intOf vx).toNat)
      case atStart => exact ⟨0, Nat.zero_le _, rfl, by rw [HT.out.z0], Below.refl _ _⟩
      case round =>
        obtain ⟨x, hx, rfl, rfl, hq⟩ := hrel
        by_cases hlt : x < N
        · have hlt' : decide ((x : Int) < (N : Int)) = true := by rw [decide_eq_true_eq]; omega
          have HZ := Lib.hid (HT.out.zs x)
          have hz0 : Z x = (Z x || Y x 0) := by rw [HT.out.y0, Bool.or_false]
          have HZ0 := Lib.hid hz0; clear hz0
          obtain ⟨A, hA⟩ : ∃ A, Z x = A := ⟨_, rfl⟩
          rw [hA] at HZ HZ0 ⊢
          clear hA
          go_wp2
          go_loopw [15, 17] (fun vs vy wm => ∃ y : Nat, y ≤ N ∧ vy = .int .i64 y ∧ vs = .bool (A || Y x y) ∧ Below w10.heap.size w10 wm) (fun _ vy _ => N - (intOf vy).toNat)
          case atStart => exact ⟨0, Nat.zero_le _, rfl, by rw [← HZ0.out], hq⟩
          case round =>
            obtain ⟨y, hy, rfl, rfl, hq2⟩ := hrel
            by_cases hly : y < N
            · have hly' : decide ((y : Int) < (N : Int)) = true := by rw [decide_eq_true_eq]; omega
              have HMX := Lib.hid (fun w c => HM.out x y roO rcO w c)
              have hTl := HT.out.few x y
              have HU := Lib.hid (show (A || Y x (y + 1)) = ((A || Y x y) || (MK x y && eqS (MT x y) lP)) by rw [HT.out.ys, Bool.or_assoc])
              generalize MT x y = T at *
              generalize MK x y = M at *
              obtain ⟨B, hB9⟩ : ∃ B, (A || Y x y) = B := ⟨_, rfl⟩
              rw [hB9] at HU ⊢
              clear hB9
              cases B
              · cases M
                · -- none
                  go_wp2_with fail
                  refine (HMX.out _ (CO.out.below hq2)).mono ?_
                  rintro e wq ⟨⟨roT, rcT, rfl, ow⟩, hb⟩
                  have hq3 := below_step hq2 hq2.size hb
                  have c_T := owns_cells ow
                  clear ow hb
                  go_wp2
                  go_roundw
                  case rel => exact ⟨y + 1, by omega, by go_num, by rw [HU.out]; rfl, hq3⟩
                  case measure => simp [intOf]; omega
                · -- merged
                  go_wp2_with fail
                  refine (HMX.out _ (CO.out.below hq2)).mono ?_
                  rintro e wq ⟨⟨roT, rcT, rfl, ow⟩, hb⟩
                  have hq3 := below_step hq2 hq2.size hb
                  have c_T := owns_cells ow
                  clear ow hb
                  have cP := CP.out.below hq3
                  go_wp2_with fail
                  refine (sameTexts_any _ _ _ _ _ _ T lP _ rfl rfl (by unfold maxLen; omega) c_T cP).mono ?_
                  rintro e wt ⟨rfl, hqq⟩
                  have hq4 := below_step hq3 hq3.size (quiet_below hqq)
                  clear hqq
                  go_wp2
                  go_roundw
                  case rel => exact ⟨y + 1, by omega, by go_num, by rw [HU.out]; rfl, hq4⟩
                  case measure => simp [intOf]; omega
              · -- found
                go_wp2_with fail
                refine (HMX.out _ (CO.out.below hq2)).mono ?_
                rintro e wq ⟨⟨roT, rcT, rfl, ow⟩, hb⟩
                have hq3 := below_step hq2 hq2.size hb
                have c_T := owns_cells ow
                clear ow hb
                go_wp2
                go_roundw
                case rel => exact ⟨y + 1, by omega, by go_num, by rw [HU.out]; rfl, hq3⟩
                case measure => simp [intOf]; omega
            · obtain rfl : y = N := by omega
              have hly' : decide ((y : Int) < (y : Int)) = false := by rw [decide_eq_false_iff_not]; omega
              rw [← HZ.out]
              go_wp2
              go_roundw
              case rel => exact ⟨x + 1, by omega, by go_num, rfl, hq2⟩
              case measure => simp [intOf]; omega
        · obtain rfl : x = N := by omega
          have hlt' : decide ((x : Int) < (x : Int)) = false := by rw [decide_eq_false_iff_not]; omega
          rw [HT.out.zn]
          go_wp2
          go_ret
          exact ⟨rfl, below_step HB9.out HB9.out.size hq⟩
  · have hdC : decide (1048576 < (lC.length : Int)) = true := by rw [decide_eq_true_eq]; omega
    go_enter Try.func4, Try.ntmps4
    go_wp2
    go_ret
    exact ⟨rfl, Below.refl _ _⟩

set_option maxRecDepth 100000 in
theorem fnSplit_lifted (os : Os) (started : os.Started) (H : Type) (enc : TypeId × Value → H) :
    ReturnsInHanded {} Try.checked os 4 .any (Rows.fnSplitSpec.pre6 enc Try.prog Try.f4 Rows.fnSplitRow.domain false) (Rows.fnSplitSpec.post enc Try.prog Try.f4 false true false false) := by
  refine returnsInHanded_of_change (C := Try.checked) Try.own started (by kernel_rfl) Try.func4
    (ChangeSpec.witness6 (enc := enc) (C := Try.checked) false ⟨#[], #[.slice none 0 0], []⟩ 8 (by kernel_rfl) (by kernel_rfl) (by kernel_rfl) (by kernel_rfl)) ?_
  intro W base args ds gs before hval0 hW _ _
  have hval : ∀ (j : Nat) t v, Try.f4.params[j]? = some t → args[j]? = some v → Value.okWide Try.prog W .any base t v := hval0
  have hW' := hW
  obtain ⟨p, q, hA0, hV, rfl, _, _⟩ := hW
  have hA : DataW.TrodAll enc Try.prog W 0 (fun _ => true) true Try.f4.params.toList args.toList ds p := hA0
  rw [Try.params4] at hA hval
  obtain ⟨v0, d0, rfl, rfl, h0⟩ := trodAll_one hA
  obtain ⟨rfl, rfl⟩ := trodVars_none hV
  obtain ⟨aC, eC, kC, rfl⟩ := okWide_slice Try.underlying22 (hval 0 22 v0 rfl rfl)
  clear hA0 hval0
  simp only [List.append_nil] at hW'
  have hlt0 : ∀ x ∈ p, x.block < W.heap.size := fun x hx => by simpa using hW'.lt x (by simp [hx])
  obtain ⟨lC, rfl, mC, zC, cC⟩ := open_bytes h0
  refine (fnSplit_all aC kC lC W mC zC cC).mono fun e W' ⟨he, hb⟩ => ?_
  subst he
  refine ⟨_, rfl, _, _, _, [], _, [], hW', trodAll_mk1 (shut_bool Try.underlying4 _), trodAll_mk1 (Below.trod Try.laidOut (by kernel_rfl) (of_decide_eq_true (by kernel_rfl)) h0 hb hlt0), rfl, hb.frame _, fun h => by cases h⟩

theorem fnSplit_holds : Rows.FnSplitSaid :=
  OpenClaim.holds_of_wide 4 Try.f4 rfl rfl rfl rfl rfl rfl rfl ⟨rfl, rfl, rfl, rfl, rfl⟩ rfl rfl rfl rfl rfl (by kernel_rfl) Try.func4 (by kernel_rfl)
    (of_decide_eq_true (by kernel_rfl)) (by unfold Func.isWrapper; first | (rw [if_pos (by decide +kernel)]; kernel_rfl) | (rw [if_neg (by decide +kernel)]; exact ⟨rfl, rfl⟩))
    (fun os started H enc _ => fnSplit_lifted os started H enc)

end Go.Proofs.Ytlbdkjhfnjofiaa
