/-
  For every two whole numbers the law FnExactCountCut returns true. No condition.
-/
import Derived.Test.YtlgbefmgpmdolaaCtsCQ
import Derived.Test.YtlgbefmgpmdolaaLawKQ
import Derived.Test.YtlgbefmgpmdolaaArgsQ
import Derived.Test.YtlgbefmgpmdolaaRowQ
import Derived.Test.YtlgbefmgpmdolaaNumsQ
import Derived.Test.YtlgbefmgpmdolaaLawsQ
import Derived.ChangeSlices

namespace Go.Proofs.Ytlgbefmgpmdolaa
open Go.ChangeShapes Go.WideShapes Go.ChangeAt Go.RowKit

set_option maxHeartbeats 4000000 in
theorem countCut_law (nN : Int) (nM : Int) (T0 : List Int) (b1 : Bool) (w : World)  (hT0 : T0.length ≤ 1048576)
    (HS : ∀  (W : World), Calls Try.prog 16 #[.int .i64 nN, .int .i64 nM] W fun e w' => NumsRet W.heap.size T0 b1 e w' ∧ Below W.heap.size W w')
    (HI : ∀  (W : World), Calls Try.prog 17 #[.int .i64 nN, .int .i64 nM] W fun e w' => NumsRet W.heap.size T0 b1 e w' ∧ Below W.heap.size W w') :
    Calls Try.prog 5 #[.int .i64 nN, .int .i64 nM] w fun e w' => e = .returned (.bool true) ∧ Below w.heap.size w w' := by
  have HS := Lib.hid HS
  have HI := Lib.hid HI
  have HT0 := Lib.hid (show T0.length ≤ maxLen by unfold maxLen; omega)
  have HE0 := Lib.hid (eqI_self T0)
  have hq0 : decide (((1 + T0.length : Nat) : Int) < 0) = false := by rw [decide_eq_false_iff_not]; omega
  have hB := Below.refl w.heap.size w
  go_enter Try.func5, Try.ntmps5
  go_wp2_with fail
  refine (HS.out  _ ).mono ?_
  rintro e w1 ⟨⟨wr0, wq0, rfl, ow0⟩, hb⟩
  replace hB := below_step hB hB.size hb
  have o_w0 := ow0; clear ow0
  clear hb
  have hbase_g0 := hB.size
  go_wp2_with fail
  refine (HI.out  _ ).mono ?_
  rintro e w2 ⟨⟨gr0, gq0, rfl, og0⟩, hb⟩
  have ap_w0_g0 := apart_base o_w0 og0
  replace o_w0 := ownsRow_below o_w0 hb
  replace hB := below_step hB hB.size hb
  have o_g0 := og0; clear og0
  clear hb
  go_wp2_with fail
  refine (eqIntS_any _ _ _ _ _ _ T0 T0 _ rfl rfl HT0.out (owns_cells o_g0) (owns_cells o_w0)).mono ?_
  rw [HE0.out]; rintro e w3 ⟨rfl, hq⟩
  have hb := quiet_below hq; clear hq
  replace o_w0 := ownsRow_below o_w0 hb
  replace o_g0 := ownsRow_below o_g0 hb
  replace hB := below_step hB hB.size hb
  clear hb
  go_wp2_with fail
  refine (markIntS_any _ _ (1) _ T0 _ (by omega) (by omega) (o_g0)).mono ?_
  rintro e w4 ⟨rfl, o, hg⟩
  have hB2 := below_mark hB o_g0 (B := w.heap.size) hbase_g0 hg hB.size
  replace o_w0 := owns_kept o_w0 hg ap_w0_g0
  replace o_g0 := o; clear o
  replace hB := hB2; clear hB2 hg
  go_wp2_with fail
  refine (heldIntS_any _ _ (1) T0.length _ (by omega) (by omega) (owns_cells o_g0)).mono ?_
  rintro e w5 ⟨rfl, hb⟩
  replace o_w0 := ownsRow_below o_w0 hb
  replace o_g0 := ownsRow_below o_g0 hb
  replace hB := below_step hB hB.size hb
  clear hb
  go_wp2_with fail
  refine (HI.out  _ ).mono ?_
  rintro e w6 ⟨⟨hr0, hq0, rfl, oh0⟩, hb⟩
  have ap_w0_h0 := apart_base o_w0 oh0
  have ap_g0_h0 := apart_base o_g0 oh0
  replace o_w0 := ownsRow_below o_w0 hb
  replace o_g0 := ownsRow_below o_g0 hb
  replace hB := below_step hB hB.size hb
  have o_h0 := oh0; clear oh0
  clear hb
  go_wp2_with fail
  refine (eqIntS_any _ _ _ _ _ _ T0 T0 _ rfl rfl HT0.out (owns_cells o_h0) (owns_cells o_w0)).mono ?_
  rw [HE0.out]; rintro e w7 ⟨rfl, hq⟩
  have hb := quiet_below hq; clear hq
  replace o_w0 := ownsRow_below o_w0 hb
  replace o_g0 := ownsRow_below o_g0 hb
  replace o_h0 := ownsRow_below o_h0 hb
  replace hB := below_step hB hB.size hb
  clear hb
  go_wp2_with fail
  refine (heldIntS_any _ _ (1) T0.length _ (by omega) (by omega) (owns_cells o_g0)).mono ?_
  rintro e w8 ⟨rfl, hb⟩
  replace o_w0 := ownsRow_below o_w0 hb
  replace o_g0 := ownsRow_below o_g0 hb
  replace o_h0 := ownsRow_below o_h0 hb
  replace hB := below_step hB hB.size hb
  clear hb
  go_wp2
  go_ret
  exact ⟨rfl, hB⟩

theorem countCut_all (nN : Int) (nM : Int) (w : World)  :
    Calls Try.prog 5 #[.int .i64 nN, .int .i64 nM] w fun e w' => e = .returned (.bool true) ∧ Below w.heap.size w w' :=
  countCut_law nN nM (ctR (fun p => (treeP p).isSome) nN nM) (frOk nN nM) w  (ctR_few (fun p => (treeP p).isSome) nN nM) (fun _ => specCountCut_any _ _ _) (fun _ => implCountCut_any _ _ _)

set_option maxRecDepth 100000 in
theorem countCut_lifted (os : Os) (started : os.Started) (H : Type) (enc : TypeId × Value → H) :
    ReturnsInHanded {} Try.checked os 5 .any (Rows.fnExactCountCutSpec.pre6 enc Try.prog Try.f5 Rows.fnExactCountCutRow.domain false) (Rows.fnExactCountCutSpec.post enc Try.prog Try.f5 false true false false) := by
  refine returnsInHanded_of_change (C := Try.checked) Try.own started (by kernel_rfl) Try.func5
    (ChangeSpec.witness6 (enc := enc) (C := Try.checked) false ⟨#[], #[.int .i64 0, .int .i64 0], []⟩ 8 (by kernel_rfl) (by kernel_rfl) (by kernel_rfl) (by kernel_rfl)) ?_
  intro W base args ds gs before hval0 hW _ _
  have hval : ∀ (j : Nat) t v, Try.f5.params[j]? = some t → args[j]? = some v → Value.okWide Try.prog W .any base t v := hval0
  have hW' := hW
  obtain ⟨p, q, hA0, hV, rfl, _, _⟩ := hW
  have hA : DataW.TrodAll enc Try.prog W 0 (fun _ => true) true Try.f5.params.toList args.toList ds p := hA0
  rw [Try.params5] at hA hval
  obtain ⟨v0, v1, d0, d1, p0, p1, rfl, rfl, rfl, h0, h1⟩ := trodAll_two hA
  obtain ⟨rfl, rfl⟩ := trodVars_none hV
  obtain ⟨nN, rfl, rfl, rfl, wN⟩ := open_int Try.underlying3 (hval 0 3 v0 rfl rfl) h0
  obtain ⟨nM, rfl, rfl, rfl, wM⟩ := open_int Try.underlying3 (hval 1 3 v1 rfl rfl) h1
  clear hA0 hval0
  simp only [List.append_nil] at hW'
  refine (countCut_all nN nM W ).mono fun e W' ⟨he, hb⟩ => ?_
  subst he
  refine ⟨_, rfl, _, _, _, [], _, [], hW', trodAll_mk1 (shut_bool Try.underlying4 _), trodAll_mk2 (shut_int Try.underlying3 wN) (shut_int Try.underlying3 wM), rfl, hb.frame _, fun h => by cases h⟩

theorem countCut_holds : Rows.FnExactCountCutSaid :=
  OpenClaim.holds_of_wide 5 Try.f5 rfl rfl rfl rfl rfl rfl rfl ⟨rfl, rfl, rfl, rfl, rfl⟩ rfl rfl rfl rfl rfl (by kernel_rfl) Try.func5 (by kernel_rfl)
    (of_decide_eq_true (by kernel_rfl)) (by unfold Func.isWrapper; first | (rw [if_pos (by decide +kernel)]; kernel_rfl) | (rw [if_neg (by decide +kernel)]; exact ⟨rfl, rfl⟩))
    (fun os started H enc _ => countCut_lifted os started H enc)

end Go.Proofs.Ytlgbefmgpmdolaa
