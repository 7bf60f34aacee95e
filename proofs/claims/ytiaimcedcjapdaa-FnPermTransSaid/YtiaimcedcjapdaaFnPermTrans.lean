
/-
  For every slice of bytes the law FnPermTrans returns true, and the slice reads behind the call as it read before. No condition.
-/
import Derived.Test.YtiaimcedcjapdaaOrdK
import Derived.Test.YtiaimcedcjapdaaDrawQ
import Derived.Test.YtiaimcedcjapdaaDraw
import Derived.Test.YtiaimcedcjapdaaLaws
namespace Go.Proofs.Ytiaimcedcjapdaa
open Go.ChangeShapes Go.WideShapes Go.ChangeAt Go.RowKit

set_option maxRecDepth 100000 in
set_option maxHeartbeats 4000000 in
theorem fnPermTrans_all (aC : Option Addr) (kC : Nat) (lC : List UInt8) (w : World) (mC : lC.length ≤ maxLen) (zC : lC.length ≤ kC) (cC : CellsAt w aC (lC.map byteV)) :
    Calls Try.prog 3 #[.slice aC lC.length kC] w fun e w' => e = .returned (.bool true) ∧ Below w.heap.size w w' := by
  have mC2 := mC
  clear mC2
  by_cases dC : lC.length ≤ 1048576
  · have hdC : decide (1048576 < (lC.length : Int)) = false := by rw [decide_eq_false_iff_not]; omega
    go_enter Try.func3, Try.ntmps3
    go_wp2_with fail
    refine (drawOrderPerm_any _ _ _ _ zC dC cC).mono ?_
    rintro e w1 ⟨⟨roP, rcP, lP, hsm, rfl, c_P⟩, hb⟩
    have hB := hb
    clear hb
    have LP : lP.length ≤ 1048576 := by have := hsm.2.1; omega
    have SP : ∀ s ∈ lP, s.size ≤ 1048576 := fun s h => by have := hsm.2.2 s h; omega
    cases hp : plainB lP
    · -- no plain plan
      have HI := Lib.hid (fun w c => implOrderPerm_any roP rcP lP w LP SP c)
      have HS := Lib.hid (fun w c => specOrderPerm_any roP rcP lP w LP SP c)
      rw [hp, permL_no hp, show intsL [] = [] from rfl] at HI HS
      clear hp
      go_wp2_with fail
      refine (HI.out _ c_P).mono ?_
      rintro e w2 ⟨⟨roO, rcO, rfl, ow⟩, hb⟩
      replace c_P := c_P.below hb
      replace hB := below_step hB hB.size hb
      clear hb
      have c_O := owns_cells ow
      clear ow
      go_wp2_with fail
      refine (HS.out _ c_P).mono ?_
      rintro e w3 ⟨⟨roW, rcW, rfl, ow⟩, hb⟩
      replace c_P := c_P.below hb
      replace c_O := c_O.below hb
      replace hB := below_step hB hB.size hb
      clear hb
      have c_W := owns_cells ow
      clear ow
      go_wp2_with fail
      refine (sameInts_any _ _ _ _ _ _ [] [] _ rfl rfl (by exact Nat.zero_le _) c_O c_W).mono ?_
      rw [eqI_self]
      rintro e w4 ⟨rfl, hq⟩
      have hb := quiet_below hq
      clear hq
      replace c_P := c_P.below hb
      replace c_O := c_O.below hb
      replace c_W := c_W.below hb
      replace hB := below_step hB hB.size hb
      clear hb
      go_wp2_with fail
      refine (sameInts_any _ _ _ _ _ _ [] [] _ rfl rfl (by exact Nat.zero_le _) c_O c_W).mono ?_
      rw [eqI_self]
      rintro e w5 ⟨rfl, hq⟩
      have hb := quiet_below hq
      clear hq
      replace c_P := c_P.below hb
      replace c_O := c_O.below hb
      replace c_W := c_W.below hb
      replace hB := below_step hB hB.size hb
      clear hb
      go_wp2
      go_ret
      exact ⟨rfl, hB⟩
    · -- a plain plan
      have HI := Lib.hid (fun w c => implOrderPerm_any roP rcP lP w LP SP c)
      have HS := Lib.hid (fun w c => specOrderPerm_any roP rcP lP w LP SP c)
      have HT := Lib.hid (fun w c => implTrans_any roP rcP lP w LP SP c)
      obtain ⟨q1, q2, q3, q4, q5, q6⟩ := permTrans_math hp
      have hpl := plainB_plan hp
      have hpo := plainB_plan q1
      have LQ := (plan_small hpo).1
      have SQ := (plan_small hpo).2
      have HX := Lib.hid (fun ro rc w c => implOrderPerm_any ro rc (namesB (transB lP)) w LQ SQ c)
      rw [hp] at HI HS
      rw [hpl, orNone_yes rfl] at HT
      rw [q1] at HX
      clear hpo hpl hp q1
      obtain ⟨O, hO⟩ : ∃ O, O = permL lP := ⟨_, rfl⟩
      obtain ⟨Q, hQ⟩ : ∃ Q, Q = permL (namesB (transB lP)) := ⟨_, rfl⟩
      rw [← hO] at q2 q6 HI HS
      rw [← hQ] at q3 q6 HX
      clear hO hQ
      generalize namesB (transB lP) = T at *
      generalize gridR lP = R at *
      obtain ⟨L, hL⟩ : ∃ L, L = intsL O := ⟨_, rfl⟩
      obtain ⟨M, hM⟩ : ∃ M, M = intsL Q := ⟨_, rfl⟩
      rw [← hL] at HI HS
      rw [← hM] at HX
      have HLL := Lib.hid (show L.length = R by rw [hL, intsL_len, q2])
      have HML := Lib.hid (show M.length = R by rw [hM, intsL_len, q3])
      have HE := Lib.hid (show ∀ i, i < R → M.getD (R - 1 - i) 0 = L.getD i 0 from fun i hi => by rw [hL, hM, ints_at _ (by omega), ints_at _ (by omega), q6 i hi])
      clear hL hM q2 q3 q6
      go_wp2_with fail
      refine (HI.out _ c_P).mono ?_
      rintro e w6 ⟨⟨roO, rcO, rfl, ow⟩, hb⟩
      replace c_P := c_P.below hb
      replace hB := below_step hB hB.size hb
      clear hb
      have c_O := owns_cells ow
      clear ow
      go_wp2_with fail
      refine (HS.out _ c_P).mono ?_
      rintro e w7 ⟨⟨roW, rcW, rfl, ow⟩, hb⟩
      replace c_P := c_P.below hb
      replace c_O := c_O.below hb
      replace hB := below_step hB hB.size hb
      clear hb
      have c_W := owns_cells ow
      clear ow
      go_wp2_with fail
      refine (sameInts_any _ _ _ _ _ _ L L _ rfl rfl (by have := HLL.out; unfold maxLen; omega) c_O c_W).mono ?_
      rw [eqI_self]
      rintro e w8 ⟨rfl, hq⟩
      have hb := quiet_below hq
      clear hq
      replace c_P := c_P.below hb
      replace c_O := c_O.below hb
      replace c_W := c_W.below hb
      replace hB := below_step hB hB.size hb
      clear hb
      go_wp2_with fail
      refine (HT.out _ c_P).mono ?_
      rintro e w9 ⟨⟨roT, rcT, rfl, ow⟩, hb⟩
      replace c_P := c_P.below hb
      replace c_O := c_O.below hb
      replace c_W := c_W.below hb
      replace hB := below_step hB hB.size hb
      clear hb
      have c_T := owns_cells ow
      clear ow
      go_wp2_with fail
      refine (HX.out _ _ _ c_T).mono ?_
      rintro e w10 ⟨⟨roX, rcX, rfl, ow⟩, hb⟩
      replace c_P := c_P.below hb
      replace c_O := c_O.below hb
      replace c_W := c_W.below hb
      replace c_T := c_T.below hb
      replace hB := below_step hB hB.size hb
      clear hb
      have c_X := owns_cells ow
      clear ow
      have CX := Lib.hid c_X; have CO := Lib.hid c_O; have HB9 := Lib.hid hB
      clear c_P c_O c_W c_T c_X hB
      have hne : ((M.length : Int) != (L.length : Int)) = false := by rw [HLL.out, HML.out]; simp
      have hne2 : M.length = L.length := by rw [HLL.out, HML.out]
      have HNE := Lib.hid hne2; clear hne2
      go_wp2
      go_loopw [12] (fun vi wr => ∃ i : Nat, i ≤ R ∧ vi = .int .i64 i ∧ Below w10.heap.size w10 wr) (fun vi _ => R - (intOf vi).toNat)
      case atStart => exact ⟨0, Nat.zero_le _, rfl, Below.refl _ _⟩
      case round =>
        obtain ⟨i, hi, rfl, hq⟩ := hrel
        by_cases hlt : i < R
        · have hlt' : decide ((i : Int) < (L.length : Int)) = true := by rw [decide_eq_true_eq]; have := HLL.out; omega
          obtain ⟨j, hj⟩ : ∃ j, j = R - 1 - i := ⟨_, rfl⟩
          have e1 : (L.length : Int) - 1 - (i : Int) = (j : Int) := by have := HLL.out; omega
          have i1 : (i : Int) < (L.length : Int) := by have := HLL.out; omega
          have j1 : (j : Int) < (M.length : Int) := by have := HML.out; omega
          have i2 : i < L.length := by have := HLL.out; omega
          have j2 : j < M.length := by have := HML.out; omega
          have hl9 : L.length ≤ 9 := by have := HLL.out; omega
          have he := HE.out i hlt
          rw [← hj] at he
          clear hj
          obtain ⟨bo, oo, rfl, ko⟩ := (CO.out.below hq).int i i2
          obtain ⟨bx, ox, rfl, kx⟩ := (CX.out.below hq).int j j2
          rw [he] at kx
          clear he
          generalize L.getD i 0 = z at *
          have hz : (z != z) = false := by simp
          go_wp2
          go_quiet (fail)
          go_wp2
          go_roundw
          case rel => exact ⟨i + 1, by omega, by go_num, by first | exact hq | exact below_step hq hq.size (below_drewN _ _ _)⟩
          case measure => simp [intOf]; omega
        · obtain rfl : i = R := by omega
          have hlt' : decide ((i : Int) < (L.length : Int)) = false := by rw [decide_eq_false_iff_not]; have := HLL.out; omega
          have hlt2 : ¬ i < L.length := by have := HLL.out; omega
          have hB := below_step HB9.out HB9.out.size hq
          go_wp2
          go_ret
          exact ⟨rfl, hB⟩
  · have hdC : decide (1048576 < (lC.length : Int)) = true := by rw [decide_eq_true_eq]; omega
    go_enter Try.func3, Try.ntmps3
    go_wp2
    go_ret
    exact ⟨rfl, Below.refl _ _⟩

set_option maxRecDepth 100000 in
theorem fnPermTrans_lifted (os : Os) (started : os.Started) (H : Type) (enc : TypeId × Value → H) :
    ReturnsInHanded {} Try.checked os 3 .any (Rows.fnPermTransSpec.pre6 enc Try.prog Try.f3 Rows.fnPermTransRow.domain false) (Rows.fnPermTransSpec.post enc Try.prog Try.f3 false true false false) := by
  refine returnsInHanded_of_change (C := Try.checked) Try.own started (by kernel_rfl) Try.func3
    (ChangeSpec.witness6 (enc := enc) (C := Try.checked) false ⟨#[], #[.slice none 0 0], []⟩ 8 (by kernel_rfl) (by kernel_rfl) (by kernel_rfl) (by kernel_rfl)) ?_
  intro W base args ds gs before hval0 hW _ _
  have hval : ∀ (j : Nat) t v, Try.f3.params[j]? = some t → args[j]? = some v → Value.okWide Try.prog W .any base t v := hval0
  have hW' := hW
  obtain ⟨p, q, hA0, hV, rfl, _, _⟩ := hW
  have hA : DataW.TrodAll enc Try.prog W 0 (fun _ => true) true Try.f3.params.toList args.toList ds p := hA0
  rw [Try.params3] at hA hval
  obtain ⟨v0, d0, rfl, rfl, h0⟩ := trodAll_one hA
  obtain ⟨rfl, rfl⟩ := trodVars_none hV
  obtain ⟨aC, eC, kC, rfl⟩ := okWide_slice Try.underlying22 (hval 0 22 v0 rfl rfl)
  clear hA0 hval0
  simp only [List.append_nil] at hW'
  have hlt0 : ∀ x ∈ p, x.block < W.heap.size := fun x hx => by simpa using hW'.lt x (by simp [hx])
  obtain ⟨lC, rfl, mC, zC, cC⟩ := open_bytes h0
  refine (fnPermTrans_all aC kC lC W mC zC cC).mono fun e W' ⟨he, hb⟩ => ?_
  subst he
  refine ⟨_, rfl, _, _, _, [], _, [], hW', trodAll_mk1 (shut_bool Try.underlying4 _), trodAll_mk1 (Below.trod Try.laidOut (by kernel_rfl) (of_decide_eq_true (by kernel_rfl)) h0 hb hlt0), rfl, hb.frame _, fun h => by cases h⟩

theorem fnPermTrans_holds : Rows.FnPermTransSaid :=
  OpenClaim.holds_of_wide 3 Try.f3 rfl rfl rfl rfl rfl rfl rfl ⟨rfl, rfl, rfl, rfl, rfl⟩ rfl rfl rfl rfl rfl (by kernel_rfl) Try.func3 (by kernel_rfl)
    (of_decide_eq_true (by kernel_rfl)) (by unfold Func.isWrapper; first | (rw [if_pos (by decide +kernel)]; kernel_rfl) | (rw [if_neg (by decide +kernel)]; exact ⟨rfl, rfl⟩))
    (fun os started H enc _ => fnPermTrans_lifted os started H enc)

end Go.Proofs.Ytiaimcedcjapdaa
