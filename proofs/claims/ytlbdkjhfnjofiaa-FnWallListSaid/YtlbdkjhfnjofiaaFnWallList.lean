
/-
  For every slice of bytes the law FnWallList returns true, and the slice reads behind the call as it read before. No condition.
-/
import Derived.Test.YtlbdkjhfnjofiaaRowsM
import Derived.Test.YtlbdkjhfnjofiaaDraw
import Derived.Test.YtlbdkjhfnjofiaaLaws
namespace Go.Proofs.Ytlbdkjhfnjofiaa
open Go.ChangeShapes Go.WideShapes Go.ChangeAt Go.RowKit

set_option maxRecDepth 100000 in
set_option maxHeartbeats 40000000 in
theorem fnWallList_all (aC : Option Addr) (kC : Nat) (lC : List UInt8) (w : World) (mC : lC.length ≤ maxLen) (zC : lC.length ≤ kC) (cC : CellsAt w aC (lC.map byteV)) :
    Calls Try.prog 6 #[.slice aC lC.length kC] w fun e w' => e = .returned (.bool true) ∧ Below w.heap.size w w' := by
  have mC2 := mC
  clear mC2
  by_cases dC : lC.length ≤ 1048576
  · have hdC : decide (1048576 < (lC.length : Int)) = false := by rw [decide_eq_false_iff_not]; omega
    go_enter Try.func6, Try.ntmps6
    go_wp2_with fail
    refine (drawWallList_any _ _ _ _ zC dC cC).mono ?_
    rintro e w1 ⟨⟨roP, rcP, lP, hsm, rfl, c_P⟩, hb⟩
    have hB := hb
    clear hb
    have LP : lP.length ≤ 1048576 := by have := hsm.2.1; omega
    have SP : ∀ s ∈ lP, s.size ≤ 1048576 := fun s h => by have := hsm.2.2 s h; omega
    cases hp : planB lP
    · -- no plan
      have HI := Lib.hid (fun w c => implWallList_any roP rcP lP w LP SP c)
      have HS := Lib.hid (fun w c => specWallList_any roP rcP lP w LP SP c)
      have hE : listOr lP = [] := by unfold listOr; rw [wallsP_no hp]; rfl
      rw [hp, hE] at HI HS
      go_wp2_with fail
      refine (HI.out _ c_P).mono ?_
      rintro e w2 ⟨⟨roO, rcO, rfl, usO, hus⟩, hb⟩
      replace c_P := c_P.below hb
      replace hB := below_step hB hB.size hb
      clear hb
      have c_O := hus
      clear hus
      go_wp2_with fail
      refine (HS.out _ c_P).mono ?_
      rintro e w3 ⟨⟨roW, rcW, rfl, usW, hus⟩, hb⟩
      replace c_P := c_P.below hb
      replace c_O := c_O.below hb
      replace hB := below_step hB hB.size hb
      clear hb
      have c_W := hus
      clear hus
      go_wp2_with fail
      refine (sameRows_same _ _ _ _ _ _ [] usO usW _ (Nat.zero_le _) (fun l hl => by cases hl) c_O c_W).mono ?_
      rintro e w4 ⟨rfl, hb⟩
      replace c_P := c_P.below hb
      replace c_O := c_O.below hb
      replace c_W := c_W.below hb
      replace hB := below_step hB hB.size hb
      clear hb
      go_wp2_with fail
      refine (sameRows_same _ _ _ _ _ _ [] usO usW _ (Nat.zero_le _) (fun l hl => by cases hl) c_O c_W).mono ?_
      rintro e w5 ⟨rfl, hb⟩
      replace c_P := c_P.below hb
      replace c_O := c_O.below hb
      replace c_W := c_W.below hb
      replace hB := below_step hB hB.size hb
      clear hb
      go_wp2
      go_ret
      exact ⟨rfl, hB⟩
    · -- a plan
      have HI := Lib.hid (fun w c => implWallList_any roP rcP lP w LP SP c)
      have HS := Lib.hid (fun w c => specWallList_any roP rcP lP w LP SP c)
      have HM := Lib.hid (fun w c => implWallMany_any roP rcP lP w LP SP c)
      rw [hp] at HI HS HM
      unfold listOr at HI HS
      have hle := wallsP_len lP
      obtain ⟨hc1, hc2⟩ := walls_count lP
      have HIN := Lib.hid (fun i hi => wall_in (i := i) hp hi)
      have HOR := Lib.hid (fun i j hi hj => walls_order (p := lP) (i := i) (j := j) hi hj)
      have HP0 := Lib.hid (show 0 < lP.length from (planP_of hp).grid.h1)
      have h6 := (planP_of hp).grid.h6; have w6 := (planP_of hp).grid.w6
      have hlw : wideB lP = (lP.getD 0 ByteArray.empty).size := rfl
      rw [hlw] at HIN w6
      clear hlw
      generalize manyU lP = U at *
      generalize manyV lP = V at *
      generalize wallsP lP = L at *
      have HC1 := Lib.hid hc1; have HC2 := Lib.hid hc2; clear hc1 hc2
      have hLL : (L.map wlN).length = L.length := List.length_map _
      have hTl : ∀ l ∈ L.map wlN, l.length ≤ 1048576 := fun l hl => by rw [List.mem_map] at hl; obtain ⟨x, _, rfl⟩ := hl; simp [wlN]
      have HTL := Lib.hid hTl; clear hTl
      have HLL := Lib.hid hLL; clear hLL
      have hTle : (L.map wlN).length ≤ 1048576 := by have := HLL.out; omega
      go_wp2_with fail
      refine (HI.out _ c_P).mono ?_
      rintro e w6 ⟨⟨roO, rcO, rfl, usO, hus⟩, hb⟩
      replace c_P := c_P.below hb
      replace hB := below_step hB hB.size hb
      clear hb
      have c_O := hus
      clear hus
      go_wp2_with fail
      refine (HS.out _ c_P).mono ?_
      rintro e w7 ⟨⟨roW, rcW, rfl, usW, hus⟩, hb⟩
      replace c_P := c_P.below hb
      replace c_O := c_O.below hb
      replace hB := below_step hB hB.size hb
      clear hb
      have c_W := hus
      clear hus
      have HSR := Lib.hid (fun ao bo ca cb ba bb us vs w a b => sameRows_same ao bo ca cb ba bb (L.map wlN) us vs w hTle HTL.out a b)
      rw [HLL.out] at HSR
      go_wp2_with fail
      refine (HSR.out _ _ _ _ _ _ usO usW _ c_O c_W).mono ?_
      rintro e w8 ⟨rfl, hb⟩
      replace c_P := c_P.below hb
      replace c_O := c_O.below hb
      replace c_W := c_W.below hb
      replace hB := below_step hB hB.size hb
      clear hb
      go_wp2_with fail
      refine (HM.out _ c_P).mono ?_
      rintro e w9 ⟨rfl, hb⟩
      replace c_P := c_P.below hb
      replace c_O := c_O.below hb
      replace c_W := c_W.below hb
      replace hB := below_step hB hB.size hb
      clear hb
      have CP := Lib.hid c_P; have CO := Lib.hid c_O; have HB9 := Lib.hid hB
      clear c_P c_O c_W hB
      obtain ⟨WK, hWK⟩ : ∃ WK, WK = w9 := ⟨_, rfl⟩
      clear hTle
      go_wp2
      go_loopw [11, 12, 13, 14, 15] (fun vn vi _ _ _ wr => ∃ i : Nat, i ≤ L.length ∧ vi = .int .i64 i ∧ vn = .int .i64 (cntW 0 (L.take i) : Nat) ∧ Below w9.heap.size w9 wr) (fun _ vi _ _ _ _ => L.length - (intOf vi).toNat)
      case atStart => exact ⟨0, Nat.zero_le _, rfl, rfl, Below.refl _ _⟩
      case round =>
        obtain ⟨i, hi, rfl, rfl, hq⟩ := hrel
        have hct : cntW 0 (L.take i) ≤ 72 := Nat.le_trans (cntW_le 0 _) (by rw [List.length_take]; omega)
        by_cases hlt : i < L.length
        · have hlt' : decide ((i : Int) < (L.length : Int)) = true := by rw [decide_eq_true_eq]; omega
          obtain ⟨bb, off, gg, cc, rfl, k0, x0, x1, x2, x3⟩ := rows_wl (CO.out.below hq) hlt
          obtain ⟨bP, oP, rfl, kP⟩ := (CP.out.below hq).str 0 HP0.out
          rw [Nat.add_zero] at kP
          have hp0 := HP0.out
          have hp1 : (0 : Int) < (lP.length : Int) := by omega
          obtain ⟨y1, y2, y3, y4, y5⟩ := HIN.out i hlt _ rfl
          have HTK := Lib.hid (show cntW 0 (L.take (i + 1)) = cntW 0 (L.take i) + if (L.getD i zeroWl).way = 0 then 1 else 0 by rw [take_snoc L i zeroWl hlt, cntW_snoc])
          have HPV := Lib.hid (fun (j : Nat) (hj : j ≤ i) => HOR.out i j hlt hj)
          have HPR := Lib.hid (fun (j : Nat) (hj : j < L.length) => rows_wl (CO.out.below hq) hj)
          generalize hX : L.getD i zeroWl = X at *
          clear hX
          generalize lP.getD 0 ByteArray.empty = s0 at *
          generalize hcN : cntW 0 (L.take i) = n at *
          have HCN := Lib.hid hcN; clear hcN
          rcases (show X.way = 0 ∨ X.way = 1 by omega) with hw | hw
          · rw [hw] at x0 HPV HTK
            simp only [hw, if_true] at y3 y5 HTK
            have a1 : decide ((X.line : Int) < 1) = false := by rw [decide_eq_false_iff_not]; omega
            have a2 : decide ((s0.size : Int) ≤ (X.line : Int)) = false := by rw [decide_eq_false_iff_not]; omega
            have a4 : decide ((X.long : Int) < 1) = false := by rw [decide_eq_false_iff_not]; omega
            have a5 : decide ((lP.length : Int) < (X.first : Int) + (X.long : Int)) = false := by rw [decide_eq_false_iff_not]; omega
            have a2n : ¬ (s0.size ≤ X.line) := by omega
            have a3 : decide ((X.first : Int) < 0) = false := by rw [decide_eq_false_iff_not]; omega
            have a5n : ¬ (lP.length < X.first + X.long) := by omega
            have b1 : X.first ≤ 6 := by omega
            have b2 : X.long ≤ 6 := by omega
            clear hw y1 y2 y3 y4 y5
            by_cases h0 : i = 0
            · subst h0
              clear HPR HPV
              rw [Nat.add_zero] at k0
              generalize X.line = e1 at *
              generalize X.first = e2 at *
              generalize X.long = e3 at *
              go_wp2
              refine wp_region_quiet_lit (by kernel_rfl) (by kernel_rfl) ?_
              repeat (go_big_quiet_step (fail))
              refine wpQuiet_nil ?_
              intro _ hw1
              obtain ⟨nq, hw2⟩ := hw1
              subst hw2
              go_wp2
              go_roundw
              case rel => exact ⟨0 + 1, by omega, by go_num, by rw [HTK.out]; go_num, hq.trans (below_drewN _ _ _)⟩
              case measure => simp [intOf]; omega
            · obtain ⟨j, hj⟩ : ∃ j, i = j + 1 := ⟨i - 1, by omega⟩
              have hi1 : (i : Int) - 1 = (j : Int) := by omega
              have hjl : j < L.length := by omega
              have hjl2 : (j : Int) < (L.length : Int) := by omega
              have hj0 : (0 : Int) ≤ (j : Int) := by omega
              have c1 : decide ((0 : Int) < (i : Int)) = true := by rw [decide_eq_true_eq]; omega
              obtain ⟨bb2, off2, g2, cc2, he, m0, z0, _, _, _⟩ := HPR.out j hjl
              simp only [Option.some.injEq, Addr.mk.injEq, and_true] at he
              obtain ⟨rfl, rfl⟩ := he
              have hv := HPV.out j (by omega)
              have c2 : decide ((0 : Int) < ((L.getD j zeroWl).way : Int)) = false := by rw [decide_eq_false_iff_not]; omega
              have c2n : ¬ (0 < (L.getD j zeroWl).way) := by omega
              have c1n : 0 < i := by omega
              generalize (L.getD j zeroWl).way = v at *
              clear HPR HPV hv
              have HJ := Lib.hid hj; clear hj
              generalize X.line = e1 at *
              generalize X.first = e2 at *
              generalize X.long = e3 at *
              go_wp2
              refine wp_region_quiet_lit (by kernel_rfl) (by kernel_rfl) ?_
              repeat (go_big_quiet_step (fail))
              refine wpQuiet_nil ?_
              intro _ hw1
              obtain ⟨nq, hw2⟩ := hw1
              subst hw2
              go_wp2
              go_roundw
              case rel => exact ⟨i + 1, by omega, by go_num, by rw [HTK.out]; go_num, hq.trans (below_drewN _ _ _)⟩
              case measure => simp [intOf]; omega
          · rw [hw] at x0 HPV HTK
            simp only [hw, Nat.one_ne_zero, if_false] at y3 y5 HTK
            have a1 : decide ((X.line : Int) < 1) = false := by rw [decide_eq_false_iff_not]; omega
            have a2 : decide ((lP.length : Int) ≤ (X.line : Int)) = false := by rw [decide_eq_false_iff_not]; omega
            have a4 : decide ((X.long : Int) < 1) = false := by rw [decide_eq_false_iff_not]; omega
            have a5 : decide ((s0.size : Int) < (X.first : Int) + (X.long : Int)) = false := by rw [decide_eq_false_iff_not]; omega
            have a2n : ¬ (lP.length ≤ X.line) := by omega
            have a3 : decide ((X.first : Int) < 0) = false := by rw [decide_eq_false_iff_not]; omega
            have a5n : ¬ (s0.size < X.first + X.long) := by omega
            have b1 : X.first ≤ 6 := by omega
            have b2 : X.long ≤ 6 := by omega
            clear hw y1 y2 y3 y4 y5
            by_cases h0 : i = 0
            · subst h0
              clear HPR HPV
              rw [Nat.add_zero] at k0
              generalize X.line = e1 at *
              generalize X.first = e2 at *
              generalize X.long = e3 at *
              go_wp2
              refine wp_region_quiet_lit (by kernel_rfl) (by kernel_rfl) ?_
              repeat (go_big_quiet_step (fail))
              refine wpQuiet_nil ?_
              intro _ hw1
              obtain ⟨nq, hw2⟩ := hw1
              subst hw2
              go_wp2
              go_roundw
              case rel => exact ⟨0 + 1, by omega, by go_num, by rw [HTK.out]; rfl, hq.trans (below_drewN _ _ _)⟩
              case measure => simp [intOf]; omega
            · obtain ⟨j, hj⟩ : ∃ j, i = j + 1 := ⟨i - 1, by omega⟩
              have hi1 : (i : Int) - 1 = (j : Int) := by omega
              have hjl : j < L.length := by omega
              have hjl2 : (j : Int) < (L.length : Int) := by omega
              have hj0 : (0 : Int) ≤ (j : Int) := by omega
              have c1 : decide ((0 : Int) < (i : Int)) = true := by rw [decide_eq_true_eq]; omega
              obtain ⟨bb2, off2, g2, cc2, he, m0, z0, _, _, _⟩ := HPR.out j hjl
              simp only [Option.some.injEq, Addr.mk.injEq, and_true] at he
              obtain ⟨rfl, rfl⟩ := he
              have hv := HPV.out j (by omega)
              have c2 : decide ((1 : Int) < ((L.getD j zeroWl).way : Int)) = false := by rw [decide_eq_false_iff_not]; omega
              have c2n : ¬ (1 < (L.getD j zeroWl).way) := by omega
              have c1n : 0 < i := by omega
              generalize (L.getD j zeroWl).way = v at *
              clear HPR HPV hv
              have HJ := Lib.hid hj; clear hj
              generalize X.line = e1 at *
              generalize X.first = e2 at *
              generalize X.long = e3 at *
              go_wp2
              refine wp_region_quiet_lit (by kernel_rfl) (by kernel_rfl) ?_
              repeat (go_big_quiet_step (fail))
              refine wpQuiet_nil ?_
              intro _ hw1
              obtain ⟨nq, hw2⟩ := hw1
              subst hw2
              go_wp2
              go_roundw
              case rel => exact ⟨i + 1, by omega, by go_num, by rw [HTK.out]; rfl, hq.trans (below_drewN _ _ _)⟩
              case measure => simp [intOf]; omega
        · obtain rfl : i = L.length := by omega
          have hlt' : decide ((L.length : Int) < (L.length : Int)) = false := by rw [decide_eq_false_iff_not]; omega
          rw [List.take_length, HC2.out] at *
          have h3 : ((L.length : Int) == (U : Int) + (V : Int)) = true := by have := HC1.out; rw [beq_iff_eq]; omega
          have b3 : U ≤ 72 := by have := HC1.out; omega
          have b4 : V ≤ 72 := by have := HC1.out; omega
          go_wp2
          go_ret
          exact ⟨rfl, below_step HB9.out HB9.out.size hq⟩
  · have hdC : decide (1048576 < (lC.length : Int)) = true := by rw [decide_eq_true_eq]; omega
    go_enter Try.func6, Try.ntmps6
    go_wp2
    go_ret
    exact ⟨rfl, Below.refl _ _⟩

set_option maxRecDepth 100000 in
theorem fnWallList_lifted (os : Os) (started : os.Started) (H : Type) (enc : TypeId × Value → H) :
    ReturnsInHanded {} Try.checked os 6 .any (Rows.fnWallListSpec.pre6 enc Try.prog Try.f6 Rows.fnWallListRow.domain false) (Rows.fnWallListSpec.post enc Try.prog Try.f6 false true false false) := by
  refine returnsInHanded_of_change (C := Try.checked) Try.own started (by kernel_rfl) Try.func6
    (ChangeSpec.witness6 (enc := enc) (C := Try.checked) false ⟨#[], #[.slice none 0 0], []⟩ 8 (by kernel_rfl) (by kernel_rfl) (by kernel_rfl) (by kernel_rfl)) ?_
  intro W base args ds gs before hval0 hW _ _
  have hval : ∀ (j : Nat) t v, Try.f6.params[j]? = some t → args[j]? = some v → Value.okWide Try.prog W .any base t v := hval0
  have hW' := hW
  obtain ⟨p, q, hA0, hV, rfl, _, _⟩ := hW
  have hA : DataW.TrodAll enc Try.prog W 0 (fun _ => true) true Try.f6.params.toList args.toList ds p := hA0
  rw [Try.params6] at hA hval
  obtain ⟨v0, d0, rfl, rfl, h0⟩ := trodAll_one hA
  obtain ⟨rfl, rfl⟩ := trodVars_none hV
  obtain ⟨aC, eC, kC, rfl⟩ := okWide_slice Try.underlying22 (hval 0 22 v0 rfl rfl)
  clear hA0 hval0
  simp only [List.append_nil] at hW'
  have hlt0 : ∀ x ∈ p, x.block < W.heap.size := fun x hx => by simpa using hW'.lt x (by simp [hx])
  obtain ⟨lC, rfl, mC, zC, cC⟩ := open_bytes h0
  refine (fnWallList_all aC kC lC W mC zC cC).mono fun e W' ⟨he, hb⟩ => ?_
  subst he
  refine ⟨_, rfl, _, _, _, [], _, [], hW', trodAll_mk1 (shut_bool Try.underlying4 _), trodAll_mk1 (Below.trod Try.laidOut (by kernel_rfl) (of_decide_eq_true (by kernel_rfl)) h0 hb hlt0), rfl, hb.frame _, fun h => by cases h⟩

theorem fnWallList_holds : Rows.FnWallListSaid :=
  OpenClaim.holds_of_wide 6 Try.f6 rfl rfl rfl rfl rfl rfl rfl ⟨rfl, rfl, rfl, rfl, rfl⟩ rfl rfl rfl rfl rfl (by kernel_rfl) Try.func6 (by kernel_rfl)
    (of_decide_eq_true (by kernel_rfl)) (by unfold Func.isWrapper; first | (rw [if_pos (by decide +kernel)]; kernel_rfl) | (rw [if_neg (by decide +kernel)]; exact ⟨rfl, rfl⟩))
    (fun os started H enc _ => fnWallList_lifted os started H enc)

end Go.Proofs.Ytlbdkjhfnjofiaa
