
/-
  For every slice of bytes the law FnKindOrders returns true, and the slice reads behind the call as it read before. No condition.
-/
import Derived.Test.YtiaimcedcjapdaaOrdK
import Derived.Test.YtiaimcedcjapdaaDrawQ
import Derived.Test.YtiaimcedcjapdaaDraw
import Derived.Test.YtiaimcedcjapdaaLaws
namespace Go.Proofs.Ytiaimcedcjapdaa
open Go.ChangeShapes Go.WideShapes Go.ChangeAt Go.RowKit

set_option maxRecDepth 100000 in
set_option maxHeartbeats 4000000 in
theorem fnKindOrders_all (aC : Option Addr) (kC : Nat) (lC : List UInt8) (w : World) (mC : lC.length ≤ maxLen) (zC : lC.length ≤ kC) (cC : CellsAt w aC (lC.map byteV)) :
    Calls Try.prog 5 #[.slice aC lC.length kC] w fun e w' => e = .returned (.bool true) ∧ Below w.heap.size w w' := by
  have mC2 := mC
  clear mC2
  by_cases dC : lC.length ≤ 1048576
  · have hdC : decide (1048576 < (lC.length : Int)) = false := by rw [decide_eq_false_iff_not]; omega
    go_enter Try.func5, Try.ntmps5
    go_wp2_with fail
    refine (drawOrderKind_any _ _ _ _ zC dC cC).mono ?_
    rintro e w1 ⟨⟨roP, rcP, lP, nA, nB, hsm, rfl, c_P⟩, hb⟩
    have hB := hb
    clear hb
    have LP : lP.length ≤ 1048576 := by have := hsm.2.1; omega
    have SP : ∀ s ∈ lP, s.size ≤ 1048576 := fun s h => by have := hsm.2.2 s h; omega
    cases hd : kindB lP nA nB
    · -- no two rooms
      have HI := Lib.hid (fun w c => implOrderKind_any roP rcP lP nA nB w LP SP c)
      have HS := Lib.hid (fun w c => specOrderKind_any roP rcP lP nA nB w LP SP c)
      rw [hd, kind_none hd] at HI HS
      clear hd
      go_wp2_with fail
      refine (HI.out _ c_P).mono ?_
      rintro e w2 ⟨rfl, hb⟩
      replace c_P := c_P.below hb
      replace hB := below_step hB hB.size hb
      clear hb
      go_wp2_with fail
      refine (HS.out _ c_P).mono ?_
      rintro e w3 ⟨rfl, hb⟩
      replace c_P := c_P.below hb
      replace hB := below_step hB hB.size hb
      clear hb
      go_wp2
      go_ret
      exact ⟨rfl, hB⟩
    · -- two rooms
      have HI := Lib.hid (fun w c => implOrderKind_any roP rcP lP nA nB w LP SP c)
      have HS := Lib.hid (fun w c => specOrderKind_any roP rcP lP nA nB w LP SP c)
      have HF := Lib.hid (fun w c => implOrderFirst_any roP rcP lP w LP SP c)
      have HG := Lib.hid (fun w c => implOrderSecond_any roP rcP lP w LP SP c)
      obtain ⟨m1, m2, m3, m4, m5⟩ := kindOrders_math hd
      rw [hd] at HI HS
      rw [m1] at HF HG
      clear hd m1
      obtain ⟨L, hL⟩ : ∃ L, L = intsL (firstL lP) := ⟨_, rfl⟩
      obtain ⟨M, hM⟩ : ∃ M, M = intsL (secondL lP) := ⟨_, rfl⟩
      rw [← hL] at HF m5
      rw [← hM] at HG m5
      have HLL := Lib.hid (show L.length = gridR lP by rw [hL, intsL_len, m2])
      have HML := Lib.hid (show M.length = gridR lP by rw [hM, intsL_len, m3])
      clear hL hM m2 m3
      generalize gridR lP = R at *
      generalize kindV lP nA nB = K at *
      have H5 := Lib.hid m5; clear m5
      go_wp2_with fail
      refine (HI.out _ c_P).mono ?_
      rintro e w4 ⟨rfl, hb⟩
      replace c_P := c_P.below hb
      replace hB := below_step hB hB.size hb
      clear hb
      go_wp2_with fail
      refine (HS.out _ c_P).mono ?_
      rintro e w5 ⟨rfl, hb⟩
      replace c_P := c_P.below hb
      replace hB := below_step hB hB.size hb
      clear hb
      go_wp2_with fail
      refine (HF.out _ c_P).mono ?_
      rintro e w6 ⟨⟨roF, rcF, rfl, ow⟩, hb⟩
      replace c_P := c_P.below hb
      replace hB := below_step hB hB.size hb
      clear hb
      have c_F := owns_cells ow
      clear ow
      go_wp2_with fail
      refine (HG.out _ c_P).mono ?_
      rintro e w7 ⟨⟨roG, rcG, rfl, ow⟩, hb⟩
      replace c_P := c_P.below hb
      replace c_F := c_F.below hb
      replace hB := below_step hB hB.size hb
      clear hb
      have c_G := owns_cells ow
      clear ow
      have CF := Lib.hid c_F; have CG := Lib.hid c_G; have HB9 := Lib.hid hB
      clear c_P c_F c_G hB HI HS HF HG
      go_wp2
      go_loopw [14, 15, 16] (fun v1 v2 vi wr => ∃ i : Nat, i ≤ R ∧ vi = .int .i64 i ∧ v1 = .bool (pairS L nA nB R i) ∧ v2 = .bool (pairS M nA nB R i) ∧ Below w7.heap.size w7 wr) (fun _ _ vi _ => R - (intOf vi).toNat)
      case atStart => exact ⟨0, Nat.zero_le _, rfl, rfl, rfl, Below.refl _ _⟩
      case round =>
        obtain ⟨i, hi, rfl, rfl, rfl, hq⟩ := hrel
        by_cases hlt : i < R
        · have hlt' : decide ((i : Int) < (L.length : Int)) = true := by rw [decide_eq_true_eq]; have := HLL.out; omega
          have i0 : i < L.length := by have := HLL.out; omega
          have i00 : (i : Int) < (L.length : Int) := by omega
          have HP1 := Lib.hid (pairS_step L nA nB R i); have HP2 := Lib.hid (pairS_step M nA nB R i)
          have HR1 := Lib.hid (fun (k : Nat) (h : i < k) => pairR_step L nA nB h); have HR2 := Lib.hid (fun (k : Nat) (h : i < k) => pairR_step M nA nB h)
          have s1 : pairS L nA nB R i = (pairS L nA nB R i || pairR L nA nB i (i + 1)) := by rw [pairR_start, Bool.or_false]
          have s2 : pairS M nA nB R i = (pairS M nA nB R i || pairR M nA nB i (i + 1)) := by rw [pairR_start, Bool.or_false]
          generalize pairS L nA nB R i = p1 at *
          generalize pairS M nA nB R i = p2 at *
          have S1 := Lib.hid s1; have S2 := Lib.hid s2; clear s1 s2
          have hi9 : i ≤ 8 := by omega
          go_wp2
          go_loopw [14, 15, 17] (fun v1 v2 vk wr => ∃ k : Nat, i + 1 ≤ k ∧ k ≤ R ∧ vk = .int .i64 k ∧ v1 = .bool (p1 || pairR L nA nB i k) ∧ v2 = .bool (p2 || pairR M nA nB i k) ∧ Below w7.heap.size w7 wr) (fun _ _ vk _ => R - (intOf vk).toNat)
          case atStart => exact ⟨i + 1, Nat.le_refl _, hlt, by go_num, by rw [← S1.out], by rw [← S2.out], hq⟩
          case round =>
            clear hq
            obtain ⟨k, hk1, hk, rfl, rfl, rfl, hq⟩ := hrel
            by_cases hkr : k < R
            · have hkr' : decide ((k : Int) < (L.length : Int)) = true := by rw [decide_eq_true_eq]; have := HLL.out; omega
              have k0 : k < L.length := by have := HLL.out; omega
              have r1 : (p1 || pairR L nA nB i (k + 1)) = ((p1 || pairR L nA nB i k) || (decide (L.getD i 0 = nA) && decide (L.getD k 0 = nB))) := by rw [HR1.out k (by omega), Bool.or_assoc]
              have r2 : (p2 || pairR M nA nB i (k + 1)) = ((p2 || pairR M nA nB i k) || (decide (M.getD i 0 = nA) && decide (M.getD k 0 = nB))) := by rw [HR2.out k (by omega), Bool.or_assoc]
              generalize (p1 || pairR L nA nB i k) = o1 at *
              generalize (p2 || pairR M nA nB i k) = o2 at *
              have i1 : (i : Int) < (L.length : Int) := by have := HLL.out; have := HML.out; omega
              have i2 : (i : Int) < (M.length : Int) := by have := HLL.out; have := HML.out; omega
              have k1 : (k : Int) < (L.length : Int) := by have := HLL.out; have := HML.out; omega
              have k2 : (k : Int) < (M.length : Int) := by have := HLL.out; have := HML.out; omega
              have i3 : i < L.length := by have := HLL.out; have := HML.out; omega
              have i4 : i < M.length := by have := HLL.out; have := HML.out; omega
              have k3 : k < L.length := by have := HLL.out; have := HML.out; omega
              have k4 : k < M.length := by have := HLL.out; have := HML.out; omega
              obtain ⟨bf, of, rfl, c1⟩ := (CF.out.below hq).int i i3
              obtain ⟨bf2, of2, he, c2⟩ := (CF.out.below hq).int k k3
              simp only [Option.some.injEq, Addr.mk.injEq, and_true] at he
              obtain ⟨rfl, rfl⟩ := he
              obtain ⟨bg, og, rfl, c3⟩ := (CG.out.below hq).int i i4
              obtain ⟨bg2, og2, he, c4⟩ := (CG.out.below hq).int k k4
              simp only [Option.some.injEq, Addr.mk.injEq, and_true] at he
              obtain ⟨rfl, rfl⟩ := he
              generalize L.getD i 0 = x1 at *
              generalize L.getD k 0 = x2 at *
              generalize M.getD i 0 = x3 at *
              generalize M.getD k 0 = x4 at *
              have R1 := Lib.hid r1; have R2 := Lib.hid r2; clear r1 r2
              have fin : ∀ (u1 u2 : Bool), u1 = (o1 || (decide (x1 = nA) && decide (x2 = nB))) → u2 = (o2 || (decide (x3 = nA) && decide (x4 = nB))) → True := fun _ _ _ _ => trivial
              clear fin
              rcases Bool.eq_false_or_eq_true o1 with h1 | h1
              · rw [h1]
                rcases Bool.eq_false_or_eq_true o2 with h2 | h2
                · rw [h2]
                  go_wp2
                  go_roundw
                  case rel => exact ⟨k + 1, by omega, by omega, by go_num, by rw [R1.out]; simp [h1], by rw [R2.out]; simp [h2], hq⟩
                  case measure => simp [intOf]; omega
                · rw [h2]
                  by_cases a2 : x3 = nA
                  · have a2d : (x3 == nA) = true := by rw [beq_iff_eq]; exact a2
                    by_cases b2 : x4 = nB
                    · have b2d : (x4 == nB) = true := by rw [beq_iff_eq]; exact b2
                      go_wp2
                      go_roundw
                      case rel => exact ⟨k + 1, by omega, by omega, by go_num, by rw [R1.out]; simp [h1], by rw [R2.out]; simp [h2, a2, b2], hq⟩
                      case measure => simp [intOf]; omega
                    · have b2d : (x4 == nB) = false := by rw [beq_eq_false_iff_ne]; exact b2
                      go_wp2
                      go_roundw
                      case rel => exact ⟨k + 1, by omega, by omega, by go_num, by rw [R1.out]; simp [h1], by rw [R2.out]; simp [h2, a2, b2], hq⟩
                      case measure => simp [intOf]; omega
                  · have a2d : (x3 == nA) = false := by rw [beq_eq_false_iff_ne]; exact a2
                    go_wp2
                    go_roundw
                    case rel => exact ⟨k + 1, by omega, by omega, by go_num, by rw [R1.out]; simp [h1], by rw [R2.out]; simp [h2, a2], hq⟩
                    case measure => simp [intOf]; omega
              · rw [h1]
                by_cases a1 : x1 = nA
                · have a1d : (x1 == nA) = true := by rw [beq_iff_eq]; exact a1
                  by_cases b1 : x2 = nB
                  · have b1d : (x2 == nB) = true := by rw [beq_iff_eq]; exact b1
                    rcases Bool.eq_false_or_eq_true o2 with h2 | h2
                    · rw [h2]
                      go_wp2
                      go_roundw
                      case rel => exact ⟨k + 1, by omega, by omega, by go_num, by rw [R1.out]; simp [h1, a1, b1], by rw [R2.out]; simp [h2], hq⟩
                      case measure => simp [intOf]; omega
                    · rw [h2]
                      by_cases a2 : x3 = nA
                      · have a2d : (x3 == nA) = true := by rw [beq_iff_eq]; exact a2
                        by_cases b2 : x4 = nB
                        · have b2d : (x4 == nB) = true := by rw [beq_iff_eq]; exact b2
                          go_wp2
                          go_roundw
                          case rel => exact ⟨k + 1, by omega, by omega, by go_num, by rw [R1.out]; simp [h1, a1, b1], by rw [R2.out]; simp [h2, a2, b2], hq⟩
                          case measure => simp [intOf]; omega
                        · have b2d : (x4 == nB) = false := by rw [beq_eq_false_iff_ne]; exact b2
                          go_wp2
                          go_roundw
                          case rel => exact ⟨k + 1, by omega, by omega, by go_num, by rw [R1.out]; simp [h1, a1, b1], by rw [R2.out]; simp [h2, a2, b2], hq⟩
                          case measure => simp [intOf]; omega
                      · have a2d : (x3 == nA) = false := by rw [beq_eq_false_iff_ne]; exact a2
                        go_wp2
                        go_roundw
                        case rel => exact ⟨k + 1, by omega, by omega, by go_num, by rw [R1.out]; simp [h1, a1, b1], by rw [R2.out]; simp [h2, a2], hq⟩
                        case measure => simp [intOf]; omega
                  · have b1d : (x2 == nB) = false := by rw [beq_eq_false_iff_ne]; exact b1
                    rcases Bool.eq_false_or_eq_true o2 with h2 | h2
                    · rw [h2]
                      go_wp2
                      go_roundw
                      case rel => exact ⟨k + 1, by omega, by omega, by go_num, by rw [R1.out]; simp [h1, a1, b1], by rw [R2.out]; simp [h2], hq⟩
                      case measure => simp [intOf]; omega
                    · rw [h2]
                      by_cases a2 : x3 = nA
                      · have a2d : (x3 == nA) = true := by rw [beq_iff_eq]; exact a2
                        by_cases b2 : x4 = nB
                        · have b2d : (x4 == nB) = true := by rw [beq_iff_eq]; exact b2
                          go_wp2
                          go_roundw
                          case rel => exact ⟨k + 1, by omega, by omega, by go_num, by rw [R1.out]; simp [h1, a1, b1], by rw [R2.out]; simp [h2, a2, b2], hq⟩
                          case measure => simp [intOf]; omega
                        · have b2d : (x4 == nB) = false := by rw [beq_eq_false_iff_ne]; exact b2
                          go_wp2
                          go_roundw
                          case rel => exact ⟨k + 1, by omega, by omega, by go_num, by rw [R1.out]; simp [h1, a1, b1], by rw [R2.out]; simp [h2, a2, b2], hq⟩
                          case measure => simp [intOf]; omega
                      · have a2d : (x3 == nA) = false := by rw [beq_eq_false_iff_ne]; exact a2
                        go_wp2
                        go_roundw
                        case rel => exact ⟨k + 1, by omega, by omega, by go_num, by rw [R1.out]; simp [h1, a1, b1], by rw [R2.out]; simp [h2, a2], hq⟩
                        case measure => simp [intOf]; omega
                · have a1d : (x1 == nA) = false := by rw [beq_eq_false_iff_ne]; exact a1
                  rcases Bool.eq_false_or_eq_true o2 with h2 | h2
                  · rw [h2]
                    go_wp2
                    go_roundw
                    case rel => exact ⟨k + 1, by omega, by omega, by go_num, by rw [R1.out]; simp [h1, a1], by rw [R2.out]; simp [h2], hq⟩
                    case measure => simp [intOf]; omega
                  · rw [h2]
                    by_cases a2 : x3 = nA
                    · have a2d : (x3 == nA) = true := by rw [beq_iff_eq]; exact a2
                      by_cases b2 : x4 = nB
                      · have b2d : (x4 == nB) = true := by rw [beq_iff_eq]; exact b2
                        go_wp2
                        go_roundw
                        case rel => exact ⟨k + 1, by omega, by omega, by go_num, by rw [R1.out]; simp [h1, a1], by rw [R2.out]; simp [h2, a2, b2], hq⟩
                        case measure => simp [intOf]; omega
                      · have b2d : (x4 == nB) = false := by rw [beq_eq_false_iff_ne]; exact b2
                        go_wp2
                        go_roundw
                        case rel => exact ⟨k + 1, by omega, by omega, by go_num, by rw [R1.out]; simp [h1, a1], by rw [R2.out]; simp [h2, a2, b2], hq⟩
                        case measure => simp [intOf]; omega
                    · have a2d : (x3 == nA) = false := by rw [beq_eq_false_iff_ne]; exact a2
                      go_wp2
                      go_roundw
                      case rel => exact ⟨k + 1, by omega, by omega, by go_num, by rw [R1.out]; simp [h1, a1], by rw [R2.out]; simp [h2, a2], hq⟩
                      case measure => simp [intOf]; omega
            · obtain rfl : k = R := by omega
              have hkr' : decide ((k : Int) < (L.length : Int)) = false := by rw [decide_eq_false_iff_not]; have := HLL.out; omega
              have hk2 : ¬ k < L.length := by have := HLL.out; omega
              rw [← HP1.out, ← HP2.out]
              generalize hz1 : pairS L nA nB k (i + 1) = z1 at *
              generalize hz2 : pairS M nA nB k (i + 1) = z2 at *
              have HZ1 := Lib.hid hz1; have HZ2 := Lib.hid hz2; clear hz1 hz2
              go_wp2
              go_roundw
              case rel => exact ⟨i + 1, by omega, by go_num, by rw [HZ1.out], by rw [HZ2.out], hq⟩
              case measure => simp [intOf]; omega
        · obtain rfl : i = R := by omega
          have hlt' : decide ((i : Int) < (L.length : Int)) = false := by rw [decide_eq_false_iff_not]; have := HLL.out; omega
          have hlt2 : ¬ i < L.length := by have := HLL.out; omega
          have hB := below_step HB9.out HB9.out.size hq
          rcases H5.out with ⟨e1, e2, e3⟩ | ⟨e1, e2, e3⟩ | ⟨e1, e2, e3⟩ | ⟨e1, e2, e3⟩
          · rw [e2, e3]
            subst e1
            clear e2 e3 H5
            go_wp2
            go_ret
            exact ⟨rfl, hB⟩
          · rw [e2, e3]
            subst e1
            clear e2 e3 H5
            go_wp2
            go_ret
            exact ⟨rfl, hB⟩
          · rw [e2, e3]
            subst e1
            clear e2 e3 H5
            go_wp2
            go_ret
            exact ⟨rfl, hB⟩
          · rw [e2, e3]
            subst e1
            clear e2 e3 H5
            go_wp2
            go_ret
            exact ⟨rfl, hB⟩
  · have hdC : decide (1048576 < (lC.length : Int)) = true := by rw [decide_eq_true_eq]; omega
    go_enter Try.func5, Try.ntmps5
    go_wp2
    go_ret
    exact ⟨rfl, Below.refl _ _⟩

set_option maxRecDepth 100000 in
theorem fnKindOrders_lifted (os : Os) (started : os.Started) (H : Type) (enc : TypeId × Value → H) :
    ReturnsInHanded {} Try.checked os 5 .any (Rows.fnKindOrdersSpec.pre6 enc Try.prog Try.f5 Rows.fnKindOrdersRow.domain false) (Rows.fnKindOrdersSpec.post enc Try.prog Try.f5 false true false false) := by
  refine returnsInHanded_of_change (C := Try.checked) Try.own started (by kernel_rfl) Try.func5
    (ChangeSpec.witness6 (enc := enc) (C := Try.checked) false ⟨#[], #[.slice none 0 0], []⟩ 8 (by kernel_rfl) (by kernel_rfl) (by kernel_rfl) (by kernel_rfl)) ?_
  intro W base args ds gs before hval0 hW _ _
  have hval : ∀ (j : Nat) t v, Try.f5.params[j]? = some t → args[j]? = some v → Value.okWide Try.prog W .any base t v := hval0
  have hW' := hW
  obtain ⟨p, q, hA0, hV, rfl, _, _⟩ := hW
  have hA : DataW.TrodAll enc Try.prog W 0 (fun _ => true) true Try.f5.params.toList args.toList ds p := hA0
  rw [Try.params5] at hA hval
  obtain ⟨v0, d0, rfl, rfl, h0⟩ := trodAll_one hA
  obtain ⟨rfl, rfl⟩ := trodVars_none hV
  obtain ⟨aC, eC, kC, rfl⟩ := okWide_slice Try.underlying22 (hval 0 22 v0 rfl rfl)
  clear hA0 hval0
  simp only [List.append_nil] at hW'
  have hlt0 : ∀ x ∈ p, x.block < W.heap.size := fun x hx => by simpa using hW'.lt x (by simp [hx])
  obtain ⟨lC, rfl, mC, zC, cC⟩ := open_bytes h0
  refine (fnKindOrders_all aC kC lC W mC zC cC).mono fun e W' ⟨he, hb⟩ => ?_
  subst he
  refine ⟨_, rfl, _, _, _, [], _, [], hW', trodAll_mk1 (shut_bool Try.underlying4 _), trodAll_mk1 (Below.trod Try.laidOut (by kernel_rfl) (of_decide_eq_true (by kernel_rfl)) h0 hb hlt0), rfl, hb.frame _, fun h => by cases h⟩

theorem fnKindOrders_holds : Rows.FnKindOrdersSaid :=
  OpenClaim.holds_of_wide 5 Try.f5 rfl rfl rfl rfl rfl rfl rfl ⟨rfl, rfl, rfl, rfl, rfl⟩ rfl rfl rfl rfl rfl (by kernel_rfl) Try.func5 (by kernel_rfl)
    (of_decide_eq_true (by kernel_rfl)) (by unfold Func.isWrapper; first | (rw [if_pos (by decide +kernel)]; kernel_rfl) | (rw [if_neg (by decide +kernel)]; exact ⟨rfl, rfl⟩))
    (fun os started H enc _ => fnKindOrders_lifted os started H enc)

end Go.Proofs.Ytiaimcedcjapdaa
