
/-
  For every slice of bytes the law FnCutOr returns true, and the slice reads behind the call as it read before. No condition.
-/
import Derived.Test.YtcndlfkmmgdpaaaGuiS
import Derived.Test.YtcndlfkmmgdpaaaRoomsA
import Derived.Test.YtcndlfkmmgdpaaaDraw
import Derived.Test.YtcndlfkmmgdpaaaLaws
namespace Go.Proofs.Ytcndlfkmmgdpaaa
open Go.ChangeShapes Go.WideShapes Go.ChangeAt Go.RowKit

theorem cut_or {p : List ByteArray} (h : planB p = true) : decide (0 < (stuckL p).length) = !(treeP p).isSome := by
  have ht := Rc.tree_stuck (g := gridG p) (n := 12) (allR_fit h).1 (allR_fit h).2
  rw [← treeP_yes h] at ht
  cases hs : (allR p).stuck (gridG p) 12 with
  | none =>
    rw [stuckL_none h hs, ht.2 hs]; rfl
  | some S =>
    have hn : (treeP p).isSome = false := by
      rw [Bool.eq_false_iff]; intro e; rw [ht.1 e] at hs; cases hs
    have hF := stuck_fit 12 _ S (allR_fit h).1 hs
    have hpos : 0 < (S.rooms (gridG p) (gridR p)).length := by
      rw [List.length_pos_iff_exists_mem]
      refine ⟨gridG p S.r0 S.c0, ?_⟩
      have f1 := hF.h1; have f2 := hF.w1; have f3 := hF.hh; have f4 := hF.hw
      rw [Rc.mem_rooms, Rc.room_iff]
      exact ⟨gridG_lt (by omega) (by omega), S.r0, S.c0, ⟨by omega, by omega, by omega, by omega⟩, rfl⟩
    rw [stuckL_some h hs, hn, decide_eq_true hpos]; rfl

set_option maxRecDepth 100000 in
set_option maxHeartbeats 4000000 in
theorem fnCutOr_all (aC : Option Addr) (kC : Nat) (lC : List UInt8) (w : World) (mC : lC.length ≤ maxLen) (zC : lC.length ≤ kC) (cC : CellsAt w aC (lC.map byteV)) :
    Calls Try.prog 8 #[.slice aC lC.length kC] w fun e w' => e = .returned (.bool true) ∧ Below w.heap.size w w' := by
  have mC2 := mC
  clear mC2
  by_cases dC : lC.length ≤ 1048576
  · have hdC : decide (1048576 < (lC.length : Int)) = false := by rw [decide_eq_false_iff_not]; omega
    go_enter Try.func8, Try.ntmps8
    go_wp2_with fail
    refine (drawPlanRooms_any _ _ _ _ zC dC cC).mono ?_
    rintro e w1 ⟨⟨roP, rcP, lP, hsm, rfl, c_P⟩, hb⟩
    have hB := hb
    clear hb
    have LP : lP.length ≤ 1048576 := by have := hsm.2.1; omega
    have SP : ∀ s ∈ lP, s.size ≤ 1048576 := fun s h => by have := hsm.2.2 s h; omega
    have HI := Lib.hid (fun w c => implPlanRooms_any roP rcP lP w LP SP c)
    have HS := Lib.hid (fun w c => specPlanRooms_any roP rcP lP w LP SP c)
    cases hp : planB lP
    · -- none
      rw [hp] at HI HS
      generalize roomsOr lP = r at *
      go_wp2_with fail
      refine (HI.out _ c_P).mono ?_
      rintro e w2 ⟨rfl, hb⟩
      replace c_P := c_P.below hb
      replace hB := below_step hB hB.size hb
      clear hb
      go_wp2_with fail
      refine (HS.out _ c_P).mono ?_
      rintro e w3 ⟨rfl, hb⟩
      replace c_P := c_P.below hb
      replace hB := below_step hB hB.size hb
      clear hb
      go_wp2
      go_ret
      exact ⟨rfl, hB⟩
    · -- a plan
      have HT := Lib.hid (fun w c => implCutStuck_any roP rcP lP w LP SP c)
      have HU := Lib.hid (fun w c => implCutIs_any roP rcP lP w LP SP c)
      have hor := cut_or hp
      rw [hp] at HI HS
      rw [hor] at HT
      generalize roomsOr lP = r at *
      generalize (treeP lP).isSome = b at *
      generalize intsG (stuckL lP) = T at *
      clear hor hp LP SP hsm
      go_wp2_with fail
      refine (HI.out _ c_P).mono ?_
      rintro e w4 ⟨rfl, hb⟩
      replace c_P := c_P.below hb
      replace hB := below_step hB hB.size hb
      clear hb
      go_wp2_with fail
      refine (HS.out _ c_P).mono ?_
      rintro e w5 ⟨rfl, hb⟩
      replace c_P := c_P.below hb
      replace hB := below_step hB hB.size hb
      clear hb
      go_wp2_with fail
      refine (HT.out _ c_P).mono ?_
      rintro e w6 ⟨⟨roT, rcT, rfl, -⟩, hb⟩
      replace c_P := c_P.below hb
      replace hB := below_step hB hB.size hb
      clear hb
      cases b
      all_goals
        go_wp2_with fail
        refine (HU.out _ c_P).mono ?_
        rintro e w7 ⟨rfl, hb⟩
        replace c_P := c_P.below hb
        replace hB := below_step hB hB.size hb
        clear hb
        go_wp2
        go_ret
        exact ⟨rfl, hB⟩
  · have hdC : decide (1048576 < (lC.length : Int)) = true := by rw [decide_eq_true_eq]; omega
    go_enter Try.func8, Try.ntmps8
    go_wp2
    go_ret
    exact ⟨rfl, Below.refl _ _⟩

set_option maxRecDepth 100000 in
theorem fnCutOr_lifted (os : Os) (started : os.Started) (H : Type) (enc : TypeId × Value → H) :
    ReturnsInHanded {} Try.checked os 8 .any (Rows.fnCutOrSpec.pre6 enc Try.prog Try.f8 Rows.fnCutOrRow.domain false) (Rows.fnCutOrSpec.post enc Try.prog Try.f8 false true false false) := by
  refine returnsInHanded_of_change (C := Try.checked) Try.own started (by kernel_rfl) Try.func8
    (ChangeSpec.witness6 (enc := enc) (C := Try.checked) false ⟨#[], #[.slice none 0 0], []⟩ 8 (by kernel_rfl) (by kernel_rfl) (by kernel_rfl) (by kernel_rfl)) ?_
  intro W base args ds gs before hval0 hW _ _
  have hval : ∀ (j : Nat) t v, Try.f8.params[j]? = some t → args[j]? = some v → Value.okWide Try.prog W .any base t v := hval0
  have hW' := hW
  obtain ⟨p, q, hA0, hV, rfl, _, _⟩ := hW
  have hA : DataW.TrodAll enc Try.prog W 0 (fun _ => true) true Try.f8.params.toList args.toList ds p := hA0
  rw [Try.params8] at hA hval
  obtain ⟨v0, d0, rfl, rfl, h0⟩ := trodAll_one hA
  obtain ⟨rfl, rfl⟩ := trodVars_none hV
  obtain ⟨aC, eC, kC, rfl⟩ := okWide_slice Try.underlying22 (hval 0 22 v0 rfl rfl)
  clear hA0 hval0
  simp only [List.append_nil] at hW'
  have hlt0 : ∀ x ∈ p, x.block < W.heap.size := fun x hx => by simpa using hW'.lt x (by simp [hx])
  obtain ⟨lC, rfl, mC, zC, cC⟩ := open_bytes h0
  refine (fnCutOr_all aC kC lC W mC zC cC).mono fun e W' ⟨he, hb⟩ => ?_
  subst he
  refine ⟨_, rfl, _, _, _, [], _, [], hW', trodAll_mk1 (shut_bool Try.underlying4 _), trodAll_mk1 (Below.trod Try.laidOut (by kernel_rfl) (of_decide_eq_true (by kernel_rfl)) h0 hb hlt0), rfl, hb.frame _, fun h => by cases h⟩

theorem fnCutOr_holds : Rows.FnCutOrSaid :=
  OpenClaim.holds_of_wide 8 Try.f8 rfl rfl rfl rfl rfl rfl rfl ⟨rfl, rfl, rfl, rfl, rfl⟩ rfl rfl rfl rfl rfl (by kernel_rfl) Try.func8 (by kernel_rfl)
    (of_decide_eq_true (by kernel_rfl)) (by unfold Func.isWrapper; first | (rw [if_pos (by decide +kernel)]; kernel_rfl) | (rw [if_neg (by decide +kernel)]; exact ⟨rfl, rfl⟩))
    (fun os started H enc _ => fnCutOr_lifted os started H enc)

end Go.Proofs.Ytcndlfkmmgdpaaa
