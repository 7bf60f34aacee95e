
/-
  For every two whole numbers the law FnExactSheetSquares returns true. No condition.
-/
import Derived.Test.YtclnbggeoknekaaShJ
import Derived.Test.YtclnbggeoknekaaNumA
import Derived.Test.YtclnbggeoknekaaArgs
import Derived.Test.YtclnbggeoknekaaLawK
namespace Go.Proofs.Ytclnbggeoknekaa
open Go.ChangeShapes Go.WideShapes Go.ChangeAt Go.RowKit

set_option maxHeartbeats 4000000 in
theorem sheetSquares_law (nW : Int) (nH : Int) (v0 : Int) (b1 : Bool) (w : World)  
    (HS : ∀  (W : World), Calls Try.prog 15 #[.int .i64 nW, .int .i64 nH] W fun e w' => e = .returned (.tuple #[.int .i64 v0, .bool b1]) ∧ Below W.heap.size W w')
    (HI : ∀  (W : World), Calls Try.prog 16 #[.int .i64 nW, .int .i64 nH] W fun e w' => e = .returned (.tuple #[.int .i64 v0, .bool b1]) ∧ Below W.heap.size W w') :
    Calls Try.prog 6 #[.int .i64 nW, .int .i64 nH] w fun e w' => e = .returned (.bool true) ∧ Below w.heap.size w w' := by
  have HS := Lib.hid HS
  have HI := Lib.hid HI
  have hB := Below.refl w.heap.size w
  go_enter Try.func6, Try.ntmps6
  go_wp2_with fail
  refine (HS.out  _ ).mono ?_
  rintro e w1 ⟨rfl, hb⟩
  replace hB := below_step hB hB.size hb
  clear hb
  go_wp2_with fail
  refine (HI.out  _ ).mono ?_
  rintro e w2 ⟨rfl, hb⟩
  replace hB := below_step hB hB.size hb
  clear hb
  go_wp2
  go_ret
  exact ⟨rfl, hB⟩


theorem sheetSquares_all (nW : Int) (nH : Int) (w : World)  :
    Calls Try.prog 6 #[.int .i64 nW, .int .i64 nH] w fun e w' => e = .returned (.bool true) ∧ Below w.heap.size w w' :=
  sheetSquares_law nW nH (squaO nW nH) (shB nW nH) w  (fun _ => specSheetSquares_any _ _ _) (fun _ => implSheetSquares_any _ _ _)

set_option maxRecDepth 100000 in
theorem sheetSquares_lifted (os : Os) (started : os.Started) (H : Type) (enc : TypeId × Value → H) :
    ReturnsInHanded {} Try.checked os 6 .any (Rows.fnExactSheetSquaresSpec.pre6 enc Try.prog Try.f6 Rows.fnExactSheetSquaresRow.domain false) (Rows.fnExactSheetSquaresSpec.post enc Try.prog Try.f6 false true false false) := by
  refine returnsInHanded_of_change (C := Try.checked) Try.own started (by kernel_rfl) Try.func6
    (ChangeSpec.witness6 (enc := enc) (C := Try.checked) false ⟨#[], #[.int .i64 0, .int .i64 0], []⟩ 8 (by kernel_rfl) (by kernel_rfl) (by kernel_rfl) (by kernel_rfl)) ?_
  intro W base args ds gs before hval0 hW _ _
  have hval : ∀ (j : Nat) t v, Try.f6.params[j]? = some t → args[j]? = some v → Value.okWide Try.prog W .any base t v := hval0
  have hW' := hW
  obtain ⟨p, q, hA0, hV, rfl, _, _⟩ := hW
  have hA : DataW.TrodAll enc Try.prog W 0 (fun _ => true) true Try.f6.params.toList args.toList ds p := hA0
  rw [Try.params6] at hA hval
  obtain ⟨v0, v1, d0, d1, p0, p1, rfl, rfl, rfl, h0, h1⟩ := trodAll_two hA
  obtain ⟨rfl, rfl⟩ := trodVars_none hV
  obtain ⟨nW, rfl, rfl, rfl, wW⟩ := open_int Try.underlying3 (hval 0 3 v0 rfl rfl) h0
  obtain ⟨nH, rfl, rfl, rfl, wH⟩ := open_int Try.underlying3 (hval 1 3 v1 rfl rfl) h1
  clear hA0 hval0
  simp only [List.append_nil] at hW'
  refine (sheetSquares_all nW nH W ).mono fun e W' ⟨he, hb⟩ => ?_
  subst he
  refine ⟨_, rfl, _, _, _, [], _, [], hW', trodAll_mk1 (shut_bool Try.underlying4 _), trodAll_mk2 (shut_int Try.underlying3 wW) (shut_int Try.underlying3 wH), rfl, hb.frame _, fun h => by cases h⟩

theorem sheetSquares_holds : Rows.FnExactSheetSquaresSaid :=
  OpenClaim.holds_of_wide 6 Try.f6 rfl rfl rfl rfl rfl rfl rfl ⟨rfl, rfl, rfl, rfl, rfl⟩ rfl rfl rfl rfl rfl (by kernel_rfl) Try.func6 (by kernel_rfl)
    (of_decide_eq_true (by kernel_rfl)) (by unfold Func.isWrapper; first | (rw [if_pos (by decide +kernel)]; kernel_rfl) | (rw [if_neg (by decide +kernel)]; exact ⟨rfl, rfl⟩))
    (fun os started H enc _ => sheetSquares_lifted os started H enc)

end Go.Proofs.Ytclnbggeoknekaa
