
/-
  For every whole number the law FnExactPermLooseCount returns true. No condition.
-/
import Derived.Test.YtkpjlglfhhdcbaaCntU
import Derived.Test.YtkpjlglfhhdcbaaNumA
import Derived.Test.YtkpjlglfhhdcbaaArgs
import Derived.Test.YtkpjlglfhhdcbaaLawK
namespace Go.Proofs.Ytkpjlglfhhdcbaa
open Go.ChangeShapes Go.WideShapes Go.ChangeAt Go.RowKit

set_option maxHeartbeats 4000000 in
theorem permLooseCount_law (nN : Int) (v0 : Int) (b1 : Bool) (w : World)  
    (HS : ∀  (W : World), Calls Try.prog 36 #[.int .i64 nN] W fun e w' => e = .returned (.tuple #[.int .i64 v0, .bool b1]) ∧ Below W.heap.size W w')
    (HI : ∀  (W : World), Calls Try.prog 37 #[.int .i64 nN] W fun e w' => e = .returned (.tuple #[.int .i64 v0, .bool b1]) ∧ Below W.heap.size W w') :
    Calls Try.prog 12 #[.int .i64 nN] w fun e w' => e = .returned (.bool true) ∧ Below w.heap.size w w' := by
  have HS := Lib.hid HS
  have HI := Lib.hid HI
  have hB := Below.refl w.heap.size w
  go_enter Try.func12, Try.ntmps12
  go_wp2_with fail
  refine (HS.out  _ ).mono ?_
  rintro e w1 ⟨rfl, hb⟩
  replace hB := below_step hB hB.size hb
  clear hb
  go_wp2_with fail
  refine (HI.out  _ ).mono ?_
  rintro e w2 ⟨rfl, hb⟩
  replace hB := below_step hB hB.size hb
  clear hb
  go_wp2
  go_ret
  exact ⟨rfl, hB⟩


theorem permLooseCount_all (nN : Int) (w : World)  :
    Calls Try.prog 12 #[.int .i64 nN] w fun e w' => e = .returned (.bool true) ∧ Below w.heap.size w w' :=
  permLooseCount_law nN (cntO looseB nN) (isN nN) w  (fun _ => specPermLooseCount_any _ _) (fun _ => implPermLooseCount_any _ _)

set_option maxRecDepth 100000 in
theorem permLooseCount_lifted (os : Os) (started : os.Started) (H : Type) (enc : TypeId × Value → H) :
    ReturnsInHanded {} Try.checked os 12 .any (Rows.fnExactPermLooseCountSpec.pre6 enc Try.prog Try.f12 Rows.fnExactPermLooseCountRow.domain false) (Rows.fnExactPermLooseCountSpec.post enc Try.prog Try.f12 false true false false) := by
  refine returnsInHanded_of_change (C := Try.checked) Try.own started (by kernel_rfl) Try.func12
    (ChangeSpec.witness6 (enc := enc) (C := Try.checked) false ⟨#[], #[.int .i64 0], []⟩ 8 (by kernel_rfl) (by kernel_rfl) (by kernel_rfl) (by kernel_rfl)) ?_
  intro W base args ds gs before hval0 hW _ _
  have hval : ∀ (j : Nat) t v, Try.f12.params[j]? = some t → args[j]? = some v → Value.okWide Try.prog W .any base t v := hval0
  have hW' := hW
  obtain ⟨p, q, hA0, hV, rfl, _, _⟩ := hW
  have hA : DataW.TrodAll enc Try.prog W 0 (fun _ => true) true Try.f12.params.toList args.toList ds p := hA0
  rw [Try.params12] at hA hval
  obtain ⟨v0, d0, rfl, rfl, h0⟩ := trodAll_one hA
  obtain ⟨rfl, rfl⟩ := trodVars_none hV
  obtain ⟨nN, rfl, rfl, rfl, wN⟩ := open_int Try.underlying3 (hval 0 3 v0 rfl rfl) h0
  clear hA0 hval0
  simp only [List.append_nil] at hW'
  refine (permLooseCount_all nN W ).mono fun e W' ⟨he, hb⟩ => ?_
  subst he
  refine ⟨_, rfl, _, _, _, [], _, [], hW', trodAll_mk1 (shut_bool Try.underlying4 _), trodAll_mk1 (shut_int Try.underlying3 wN), rfl, hb.frame _, fun h => by cases h⟩

theorem permLooseCount_holds : Rows.FnExactPermLooseCountSaid :=
  OpenClaim.holds_of_wide 12 Try.f12 rfl rfl rfl rfl rfl rfl rfl ⟨rfl, rfl, rfl, rfl, rfl⟩ rfl rfl rfl rfl rfl (by kernel_rfl) Try.func12 (by kernel_rfl)
    (of_decide_eq_true (by kernel_rfl)) (by unfold Func.isWrapper; first | (rw [if_pos (by decide +kernel)]; kernel_rfl) | (rw [if_neg (by decide +kernel)]; exact ⟨rfl, rfl⟩))
    (fun os started H enc _ => permLooseCount_lifted os started H enc)

end Go.Proofs.Ytkpjlglfhhdcbaa
