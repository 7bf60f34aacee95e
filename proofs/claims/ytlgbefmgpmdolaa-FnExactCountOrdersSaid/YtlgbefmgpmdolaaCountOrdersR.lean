/-
  For every three whole numbers the law FnExactCountOrders returns true. No condition.
-/
import Derived.Test.YtlgbefmgpmdolaaCtuR
import Derived.Test.YtlgbefmgpmdolaaNeckR
import Derived.Test.YtlgbefmgpmdolaaArgsR
import Derived.Test.YtlgbefmgpmdolaaRowR
import Derived.Test.YtlgbefmgpmdolaaLawsR
import Derived.ChangeSlices

namespace Go.Proofs.Ytlgbefmgpmdolaa
open Go.ChangeShapes Go.WideShapes Go.ChangeAt Go.RowKit

set_option maxHeartbeats 4000000 in
theorem countOrders_law (nN : Int) (nM : Int) (nK : Int) (v0 : Int) (b1 : Bool) (w : World)  
    (HS : ∀  (W : World), Calls Try.prog 18 #[.int .i64 nN, .int .i64 nM, .int .i64 nK] W fun e w' => e = .returned (.tuple #[.int .i64 v0, .bool b1]) ∧ Below W.heap.size W w')
    (HI : ∀  (W : World), Calls Try.prog 19 #[.int .i64 nN, .int .i64 nM, .int .i64 nK] W fun e w' => e = .returned (.tuple #[.int .i64 v0, .bool b1]) ∧ Below W.heap.size W w') :
    Calls Try.prog 6 #[.int .i64 nN, .int .i64 nM, .int .i64 nK] w fun e w' => e = .returned (.bool true) ∧ Below w.heap.size w w' := by
  have HS := Lib.hid HS
  have HI := Lib.hid HI
  have hB := Below.refl w.heap.size w
  go_enter Try.func6, Try.ntmps6
  go_wp2_with fail
  refine (HS.out  _ ).mono ?_
  rintro e w1 ⟨rfl, hb⟩
  replace hB := below_step hB hB.size hb
  clear hb
  go_wp2_with fail
  refine (HI.out  _ ).mono ?_
  rintro e w2 ⟨rfl, hb⟩
  replace hB := below_step hB hB.size hb
  clear hb
  go_wp2
  go_ret
  exact ⟨rfl, hB⟩

theorem countOrders_all (nN : Int) (nM : Int) (nK : Int) (w : World)  :
    Calls Try.prog 6 #[.int .i64 nN, .int .i64 nM, .int .i64 nK] w fun e w' => e = .returned (.bool true) ∧ Below w.heap.size w w' :=
  countOrders_law nN nM nK (ordR nN nM nK) (ordOk nN nM nK) w  (fun _ => specCountOrders_any _ _ _ _) (fun _ => implCountOrders_any _ _ _ _)

set_option maxRecDepth 100000 in
theorem countOrders_lifted (os : Os) (started : os.Started) (H : Type) (enc : TypeId × Value → H) :
    ReturnsInHanded {} Try.checked os 6 .any (Rows.fnExactCountOrdersSpec.pre6 enc Try.prog Try.f6 Rows.fnExactCountOrdersRow.domain false) (Rows.fnExactCountOrdersSpec.post enc Try.prog Try.f6 false true false false) := by
  refine returnsInHanded_of_change (C := Try.checked) Try.own started (by kernel_rfl) Try.func6
    (ChangeSpec.witness6 (enc := enc) (C := Try.checked) false ⟨#[], #[.int .i64 0, .int .i64 0, .int .i64 0], []⟩ 8 (by kernel_rfl) (by kernel_rfl) (by kernel_rfl) (by kernel_rfl)) ?_
  intro W base args ds gs before hval0 hW _ _
  have hval : ∀ (j : Nat) t v, Try.f6.params[j]? = some t → args[j]? = some v → Value.okWide Try.prog W .any base t v := hval0
  have hW' := hW
  obtain ⟨p, q, hA0, hV, rfl, _, _⟩ := hW
  have hA : DataW.TrodAll enc Try.prog W 0 (fun _ => true) true Try.f6.params.toList args.toList ds p := hA0
  rw [Try.params6] at hA hval
  obtain ⟨v0, v1, v2, d0, d1, d2, p0, p1, p2, rfl, rfl, rfl, h0, h1, h2⟩ := trodAll_three hA
  obtain ⟨rfl, rfl⟩ := trodVars_none hV
  obtain ⟨nN, rfl, rfl, rfl, wN⟩ := open_int Try.underlying3 (hval 0 3 v0 rfl rfl) h0
  obtain ⟨nM, rfl, rfl, rfl, wM⟩ := open_int Try.underlying3 (hval 1 3 v1 rfl rfl) h1
  obtain ⟨nK, rfl, rfl, rfl, wK⟩ := open_int Try.underlying3 (hval 2 3 v2 rfl rfl) h2
  clear hA0 hval0
  simp only [List.append_nil] at hW'
  refine (countOrders_all nN nM nK W ).mono fun e W' ⟨he, hb⟩ => ?_
  subst he
  refine ⟨_, rfl, _, _, _, [], _, [], hW', trodAll_mk1 (shut_bool Try.underlying4 _), trodAll_mk3 (shut_int Try.underlying3 wN) (shut_int Try.underlying3 wM) (shut_int Try.underlying3 wK), rfl, hb.frame _, fun h => by cases h⟩

theorem countOrders_holds : Rows.FnExactCountOrdersSaid :=
  OpenClaim.holds_of_wide 6 Try.f6 rfl rfl rfl rfl rfl rfl rfl ⟨rfl, rfl, rfl, rfl, rfl⟩ rfl rfl rfl rfl rfl (by kernel_rfl) Try.func6 (by kernel_rfl)
    (of_decide_eq_true (by kernel_rfl)) (by unfold Func.isWrapper; first | (rw [if_pos (by decide +kernel)]; kernel_rfl) | (rw [if_neg (by decide +kernel)]; exact ⟨rfl, rfl⟩))
    (fun os started H enc _ => countOrders_lifted os started H enc)

end Go.Proofs.Ytlgbefmgpmdolaa
