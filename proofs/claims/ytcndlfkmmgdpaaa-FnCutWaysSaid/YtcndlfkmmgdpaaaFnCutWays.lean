
/-
  For every slice of bytes the law FnCutWays returns true, and the slice reads behind the call as it read before. No condition.
-/
import Derived.Test.YtcndlfkmmgdpaaaGuiP
import Derived.Test.YtcndlfkmmgdpaaaGuiW
import Derived.Test.YtcndlfkmmgdpaaaDrawW
import Derived.Test.YtcndlfkmmgdpaaaDraw
import Derived.Test.YtcndlfkmmgdpaaaLaws
namespace Go.Proofs.Ytcndlfkmmgdpaaa
open Go.ChangeShapes Go.WideShapes Go.ChangeAt Go.RowKit

theorem wlN_inj {x y : Wl} (h : wlN x = wlN y) : x = y := by
  obtain ⟨a, b, c, d⟩ := x
  obtain ⟨a', b', c', d'⟩ := y
  unfold wlN at h
  simp only [List.cons.injEq, and_true] at h
  obtain ⟨h1, h2, h3, h4⟩ := h
  rw [Wl.mk.injEq]; omega
theorem wallsP_Q {p : List ByteArray} (h : planB p = true) : wallsP p = wallsQ p :=
  (List.map_inj_right (fun _ _ => wlN_inj)).1 ((wallsL_walls h).symm.trans (wallsL_q p))
theorem cutN_len {p : List ByteArray} (h : planB p = true) : cutN p = ((allR p).cuts (gridG p)).length := by
  have hp := planP_of h
  have e : subP p (allR p) = p := subP_all hp.grid.even
  rw [subP_cuts hp (allR_fit h).1, List.length_map, e, ← wallsQ_cuts hp.grid.h1 hp.grid.w1, List.length_map]
  unfold cutN cntC
  rw [wallsP_Q h]
  congr 2
  funext x
  unfold isCutP planH planW
  rw [if_pos h, if_pos h]
theorem sum_many {l : List Nat} (h : ∀ x ∈ l, 1 ≤ x) : l.length ≤ l.sum := by
  induction l with
  | nil => exact Nat.le_refl _
  | cons x l ih =>
    have h1 := h x List.mem_cons_self
    have h2 := ih fun y hy => h y (List.mem_cons_of_mem _ hy)
    rw [List.length_cons, List.sum_cons]; omega
theorem cuts_one {g : Nat → Nat → Nat} {h wd : Nat} {R : Rc} (F : R.Fit h wd) (h1 : R.one g = true) : R.cuts g = [] := by
  rw [List.eq_nil_iff_forall_not_mem]
  intro c hc
  have hm := Rc.cuts_mem hc
  have ho := Rc.one_iff.1 h1
  have f1 := F.h1; have f2 := F.w1
  by_cases h0 : c.1 = 0
  · have hi := (Rc.ins_up h0).1 hm.2.1
    refine (Rc.free_up h0).1 hm.2.2 R.r0 (Nat.le_refl _) (by omega) ?_
    rw [ho R.r0 (c.2 - 1) ⟨by omega, by omega, by omega, by omega⟩, ho R.r0 c.2 ⟨by omega, by omega, by omega, by omega⟩]
  · have hi := (Rc.ins_lv h0).1 hm.2.1
    refine (Rc.free_lv h0).1 hm.2.2 R.c0 (Nat.le_refl _) (by omega) ?_
    rw [ho (c.2 - 1) R.c0 ⟨by omega, by omega, by omega, by omega⟩, ho c.2 R.c0 ⟨by omega, by omega, by omega, by omega⟩]
theorem ways_len {g : Nat → Nat → Nat} {h wd : Nat} (hh : h ≤ 6) (hw : wd ≤ 6) : ∀ (n : Nat) (R : Rc), R.Fit h wd → R.h + R.w ≤ n → Gui g R → 1 ≤ R.ways g n ∧ (R.cuts g).length ≤ R.ways g n
  | 0, R, F, hn, _ => by have := F.h1; omega
  | n + 1, R, F, hn, G => by
    cases h1 : R.one g
    · have hne : 0 < (R.cuts g).length := by
        cases G with
        | one _ h => rw [h1] at h; cases h
        | cut _ c a b d _ _ => exact List.length_pos_of_mem (Rc.mem_cuts F hh hw a b d)
      rw [Rc.ways_cut h1]
      have hs := sum_many (l := (R.cuts g).map fun c => (R.left c).ways g n * (R.right c).ways g n) (fun x hx => by
        rw [List.mem_map] at hx
        obtain ⟨c, hc, rfl⟩ := hx
        have hm := Rc.cuts_mem hc
        have f1 := Rc.fit_left F hm.2.1; have f2 := Rc.fit_right F hm.2.1
        have i1 := ways_len hh hw n _ f1.1 (by omega) (G.sub _ (Rc.left_sub hm.2.1) f1.1.h1 f1.1.w1)
        have i2 := ways_len hh hw n _ f2.1 (by omega) (G.sub _ (Rc.right_sub hm.2.1) f2.1.h1 f2.1.w1)
        exact Nat.mul_pos i1.1 i2.1)
      rw [List.length_map] at hs
      exact ⟨by omega, hs⟩
    · rw [Rc.ways_one h1, cuts_one F h1]
      exact ⟨Nat.le_refl _, Nat.zero_le _⟩
theorem ways_math {p : List ByteArray} (hT : (treeP p).isSome = true) : planB p = true ∧ 1 ≤ waysP p ∧ cutN p ≤ waysP p := by
  obtain ⟨h, G⟩ := gui_of hT
  have hg := (planP_of h).grid
  have a := ways_len hg.h6 hg.w6 12 _ (allR_fit h).1 (allR_fit h).2 G
  rw [cutN_len h]
  unfold waysP
  rw [if_pos hT]
  exact ⟨h, a.1, a.2⟩

set_option maxRecDepth 100000 in
set_option maxHeartbeats 4000000 in
theorem fnCutWays_all (aC : Option Addr) (kC : Nat) (lC : List UInt8) (w : World) (mC : lC.length ≤ maxLen) (zC : lC.length ≤ kC) (cC : CellsAt w aC (lC.map byteV)) :
    Calls Try.prog 6 #[.slice aC lC.length kC] w fun e w' => e = .returned (.bool true) ∧ Below w.heap.size w w' := by
  have mC2 := mC
  clear mC2
  by_cases dC : lC.length ≤ 1048576
  · have hdC : decide (1048576 < (lC.length : Int)) = false := by rw [decide_eq_false_iff_not]; omega
    go_enter Try.func6, Try.ntmps6
    go_wp2_with fail
    refine (drawCutWays_any _ _ _ _ zC dC cC).mono ?_
    rintro e w1 ⟨⟨roP, rcP, lP, hsm, rfl, c_P⟩, hb⟩
    have hB := hb
    clear hb
    have LP : lP.length ≤ 1048576 := by have := hsm.2.1; omega
    have SP : ∀ s ∈ lP, s.size ≤ 1048576 := fun s h => by have := hsm.2.2 s h; omega
    have HI := Lib.hid (fun w c => implCutWays_any roP rcP lP w LP SP c)
    have HS := Lib.hid (fun w c => specCutWays_any roP rcP lP w LP SP c)
    cases hT : (treeP lP).isSome
    · -- not cuttable
      rw [hT] at HI HS
      generalize waysP lP = d at *
      go_wp2_with fail
      refine (HI.out _ c_P).mono ?_
      rintro e w2 ⟨rfl, hb⟩
      replace c_P := c_P.below hb
      replace hB := below_step hB hB.size hb
      clear hb
      go_wp2_with fail
      refine (HS.out _ c_P).mono ?_
      rintro e w3 ⟨rfl, hb⟩
      replace c_P := c_P.below hb
      replace hB := below_step hB hB.size hb
      clear hb
      go_wp2
      go_ret
      exact ⟨rfl, hB⟩
    · -- cuttable
      have HM := Lib.hid (fun w c => implCutMany_any roP rcP lP w LP SP c)
      have HT := Lib.hid (fun w c => implTurn_any roP rcP lP w LP SP c)
      obtain ⟨hP, hd1, hd2⟩ := ways_math hT
      obtain ⟨hq1, -, hq2⟩ := cut_turn hT
      have LT := plan_small (is_turn hP).plan
      have HX := Lib.hid (fun ro rc w c => implCutWays_any ro rc (namesB (turnB lP)) w LT.1 LT.2 c)
      rw [hq1, hq2] at HX
      rw [hT] at HI HS
      rw [hP] at HM
      rw [hP, orNone_yes rfl] at HT
      clear LT hq1 hq2 hT hP hsm LP SP
      generalize namesB (turnB lP) = T at *
      generalize waysP lP = d at *
      generalize cutN lP = m at *
      go_wp2_with fail
      refine (HI.out _ c_P).mono ?_
      rintro e w4 ⟨rfl, hb⟩
      replace c_P := c_P.below hb
      replace hB := below_step hB hB.size hb
      clear hb
      go_wp2_with fail
      refine (HS.out _ c_P).mono ?_
      rintro e w5 ⟨rfl, hb⟩
      replace c_P := c_P.below hb
      replace hB := below_step hB hB.size hb
      clear hb
      go_wp2_with fail
      refine (HT.out _ c_P).mono ?_
      rintro e w6 ⟨⟨roT, rcT, rfl, ow⟩, hb⟩
      replace c_P := c_P.below hb
      replace hB := below_step hB hB.size hb
      clear hb
      have c_T := owns_cells ow
      clear ow
      go_wp2_with fail
      refine (HX.out _ _ _ c_T).mono ?_
      rintro e w7 ⟨rfl, hb⟩
      replace c_P := c_P.below hb
      replace c_T := c_T.below hb
      replace hB := below_step hB hB.size hb
      clear hb
      go_wp2_with fail
      refine (HM.out _ c_P).mono ?_
      rintro e w8 ⟨rfl, hb⟩
      replace c_P := c_P.below hb
      replace c_T := c_T.below hb
      replace hB := below_step hB hB.size hb
      clear hb
      have HF := Lib.hid (show ∀ k : Int, k ≤ (d : Int) → Ending.returned (Value.bool (decide (k ≤ (d : Int)))) = Ending.returned (.bool true) from fun k h => by rw [decide_eq_true h])
      have HG := Lib.hid (show ∀ k : Nat, k ≤ d → Ending.returned (Value.bool (decide (k ≤ d))) = Ending.returned (.bool true) from fun k h => by rw [decide_eq_true h])
      have H1 := Lib.hid hd1; have H2 := Lib.hid hd2
      clear HI HS HM HT HX hd1 hd2
      by_cases hm : 1 < m
      · have hmI : (1 : Int) < (m : Int) := by omega
        clear hm
        go_wp2
        go_ret
        exact ⟨HG.out m H2.out, hB⟩
      · have hmI : ¬ (1 : Int) < (m : Int) := by omega
        clear hm
        go_wp2
        go_ret
        exact ⟨HF.out 1 (by have := H1.out; omega), hB⟩
  · have hdC : decide (1048576 < (lC.length : Int)) = true := by rw [decide_eq_true_eq]; omega
    go_enter Try.func6, Try.ntmps6
    go_wp2
    go_ret
    exact ⟨rfl, Below.refl _ _⟩

set_option maxRecDepth 100000 in
theorem fnCutWays_lifted (os : Os) (started : os.Started) (H : Type) (enc : TypeId × Value → H) :
    ReturnsInHanded {} Try.checked os 6 .any (Rows.fnCutWaysSpec.pre6 enc Try.prog Try.f6 Rows.fnCutWaysRow.domain false) (Rows.fnCutWaysSpec.post enc Try.prog Try.f6 false true false false) := by
  refine returnsInHanded_of_change (C := Try.checked) Try.own started (by kernel_rfl) Try.func6
    (ChangeSpec.witness6 (enc := enc) (C := Try.checked) false ⟨#[], #[.slice none 0 0], []⟩ 8 (by kernel_rfl) (by kernel_rfl) (by kernel_rfl) (by kernel_rfl)) ?_
  intro W base args ds gs before hval0 hW _ _
  have hval : ∀ (j : Nat) t v, Try.f6.params[j]? = some t → args[j]? = some v → Value.okWide Try.prog W .any base t v := hval0
  have hW' := hW
  obtain ⟨p, q, hA0, hV, rfl, _, _⟩ := hW
  have hA : DataW.TrodAll enc Try.prog W 0 (fun _ => true) true Try.f6.params.toList args.toList ds p := hA0
  rw [Try.params6] at hA hval
  obtain ⟨v0, d0, rfl, rfl, h0⟩ := trodAll_one hA
  obtain ⟨rfl, rfl⟩ := trodVars_none hV
  obtain ⟨aC, eC, kC, rfl⟩ := okWide_slice Try.underlying22 (hval 0 22 v0 rfl rfl)
  clear hA0 hval0
  simp only [List.append_nil] at hW'
  have hlt0 : ∀ x ∈ p, x.block < W.heap.size := fun x hx => by simpa using hW'.lt x (by simp [hx])
  obtain ⟨lC, rfl, mC, zC, cC⟩ := open_bytes h0
  refine (fnCutWays_all aC kC lC W mC zC cC).mono fun e W' ⟨he, hb⟩ => ?_
  subst he
  refine ⟨_, rfl, _, _, _, [], _, [], hW', trodAll_mk1 (shut_bool Try.underlying4 _), trodAll_mk1 (Below.trod Try.laidOut (by kernel_rfl) (of_decide_eq_true (by kernel_rfl)) h0 hb hlt0), rfl, hb.frame _, fun h => by cases h⟩

theorem fnCutWays_holds : Rows.FnCutWaysSaid :=
  OpenClaim.holds_of_wide 6 Try.f6 rfl rfl rfl rfl rfl rfl rfl ⟨rfl, rfl, rfl, rfl, rfl⟩ rfl rfl rfl rfl rfl (by kernel_rfl) Try.func6 (by kernel_rfl)
    (of_decide_eq_true (by kernel_rfl)) (by unfold Func.isWrapper; first | (rw [if_pos (by decide +kernel)]; kernel_rfl) | (rw [if_neg (by decide +kernel)]; exact ⟨rfl, rfl⟩))
    (fun os started H enc _ => fnCutWays_lifted os started H enc)

end Go.Proofs.Ytcndlfkmmgdpaaa
