/-
  For every slice of bytes the law FnOneRow returns true, and the slice reads behind the call as it read before. No condition.
-/
import Derived.Test.YtpgcpmfemcfoaaaDrawCO
import Derived.Test.YtpgcpmfemcfoaaaPickO
import Derived.Test.YtpgcpmfemcfoaaaNeckO

namespace Go.Proofs.Ytpgcpmfemcfoaaa
open Go.ChangeShapes Go.WideShapes Go.ChangeAt Go.RowKit

set_option maxRecDepth 100000 in
set_option maxHeartbeats 4000000 in
theorem fnOneRow_all (aC : Option Addr) (kC : Nat) (lC : List UInt8) (w : World) (mC : lC.length ≤ maxLen) (zC : lC.length ≤ kC) (cC : CellsAt w aC (lC.map byteV)) :
    Calls Try.prog 8 #[.slice aC lC.length kC] w fun e w' => e = .returned (.bool true) ∧ Below w.heap.size w w' := by
  have mC2 := mC
  clear mC2
  by_cases dC : lC.length ≤ 1048576
  · have hdC : decide (1048576 < (lC.length : Int)) = false := by rw [decide_eq_false_iff_not]; omega
    go_enter Try.func8, Try.ntmps8
    go_wp2_with fail
    refine (drawCountOrders_any _ _ _ _ zC dC cC).mono ?_
    rintro e w1 ⟨nX, nY, nZ, rfl, hd, hb⟩
    have hB := hb
    clear hb
    have HI := Lib.hid (fun w => implCountOrders_any nX nY nZ w)
    have HS := Lib.hid (fun w => specCountOrders_any nX nY nZ w)
    have HOR := Lib.hid (fun h1 h2 h3 => oneRow_ord (n := nX) (m := nY) (k := nZ) h1 h2 h3)
    clear hd
    cases hp : ordOk nX nY nZ
    · -- no such size
      rw [hp] at HI HS
      clear hp HOR
      generalize ordR nX nY nZ = u at *
      go_wp2_with fail
      refine (HI.out _).mono ?_
      rintro e w2 ⟨rfl, hb⟩
      replace hB := below_step hB hB.size hb
      clear hb
      go_wp2_with fail
      refine (HS.out _).mono ?_
      rintro e w3 ⟨rfl, hb⟩
      replace hB := below_step hB hB.size hb
      clear hb
      go_wp2
      go_ret
      exact ⟨rfl, hB⟩
    · -- a size
      have hor := HOR.out hp
      rw [hp] at HI HS
      clear hp HOR
      generalize ordR nX nY nZ = u at *
      rcases (show nX ≠ 1 ∨ (nX = 1 ∧ nZ > nY) ∨ (nX = 1 ∧ ¬ nZ > nY) by omega) with hx | ⟨hx, hy⟩ | ⟨hx, hy⟩
      · -- more rows
        have e1 : (nX == 1) = false := by rw [beq_eq_false_iff_ne]; exact hx
        clear hor
        go_wp2_with fail
        refine (HI.out _).mono ?_
        rintro e w4 ⟨rfl, hb⟩
        replace hB := below_step hB hB.size hb
        clear hb
        go_wp2_with fail
        refine (HS.out _).mono ?_
        rintro e w5 ⟨rfl, hb⟩
        replace hB := below_step hB hB.size hb
        clear hb
        go_wp2
        go_ret
        exact ⟨rfl, hB⟩
      · -- more rooms
        subst hx
        have e2 : decide (nZ > nY) = true := by rw [decide_eq_true_eq]; exact hy
        have e3 : decide (nY < nZ) = true := by rw [decide_eq_true_eq]; omega
        clear hor
        go_wp2_with fail
        refine (HI.out _).mono ?_
        rintro e w6 ⟨rfl, hb⟩
        replace hB := below_step hB hB.size hb
        clear hb
        go_wp2_with fail
        refine (HS.out _).mono ?_
        rintro e w7 ⟨rfl, hb⟩
        replace hB := below_step hB hB.size hb
        clear hb
        go_wp2
        go_ret
        exact ⟨rfl, hB⟩
      · -- one row
        subst hx
        obtain rfl : u = 1 := hor rfl (by omega)
        have e2 : decide (nZ > nY) = false := by rw [decide_eq_false_iff_not]; exact hy
        have e3 : decide (nY < nZ) = false := by rw [decide_eq_false_iff_not]; omega
        clear hor
        go_wp2_with fail
        refine (HI.out _).mono ?_
        rintro e w8 ⟨rfl, hb⟩
        replace hB := below_step hB hB.size hb
        clear hb
        go_wp2_with fail
        refine (HS.out _).mono ?_
        rintro e w9 ⟨rfl, hb⟩
        replace hB := below_step hB hB.size hb
        clear hb
        go_wp2
        go_ret
        exact ⟨rfl, hB⟩
  · have hdC : decide (1048576 < (lC.length : Int)) = true := by rw [decide_eq_true_eq]; omega
    go_enter Try.func8, Try.ntmps8
    go_wp2
    go_ret
    exact ⟨rfl, Below.refl _ _⟩

set_option maxRecDepth 100000 in
theorem fnOneRow_lifted (os : Os) (started : os.Started) (H : Type) (enc : TypeId × Value → H) :
    ReturnsInHanded {} Try.checked os 8 .any (Rows.fnOneRowSpec.pre6 enc Try.prog Try.f8 Rows.fnOneRowRow.domain false) (Rows.fnOneRowSpec.post enc Try.prog Try.f8 false true false false) := by
  refine returnsInHanded_of_change (C := Try.checked) Try.own started (by kernel_rfl) Try.func8
    (ChangeSpec.witness6 (enc := enc) (C := Try.checked) false ⟨#[], #[.slice none 0 0], []⟩ 8 (by kernel_rfl) (by kernel_rfl) (by kernel_rfl) (by kernel_rfl)) ?_
  intro W base args ds gs before hval0 hW _ _
  have hval : ∀ (j : Nat) t v, Try.f8.params[j]? = some t → args[j]? = some v → Value.okWide Try.prog W .any base t v := hval0
  have hW' := hW
  obtain ⟨p, q, hA0, hV, rfl, _, _⟩ := hW
  have hA : DataW.TrodAll enc Try.prog W 0 (fun _ => true) true Try.f8.params.toList args.toList ds p := hA0
  rw [Try.params8] at hA hval
  obtain ⟨v0, d0, rfl, rfl, h0⟩ := trodAll_one hA
  obtain ⟨rfl, rfl⟩ := trodVars_none hV
  obtain ⟨aC, eC, kC, rfl⟩ := okWide_slice Try.underlying22 (hval 0 22 v0 rfl rfl)
  clear hA0 hval0
  simp only [List.append_nil] at hW'
  have hlt0 : ∀ x ∈ p, x.block < W.heap.size := fun x hx => by simpa using hW'.lt x (by simp [hx])
  obtain ⟨lC, rfl, mC, zC, cC⟩ := open_bytes h0
  refine (fnOneRow_all aC kC lC W mC zC cC).mono fun e W' ⟨he, hb⟩ => ?_
  subst he
  refine ⟨_, rfl, _, _, _, [], _, [], hW', trodAll_mk1 (shut_bool Try.underlying4 _), trodAll_mk1 (Below.trod Try.laidOut (by kernel_rfl) (of_decide_eq_true (by kernel_rfl)) h0 hb hlt0), rfl, hb.frame _, fun h => by cases h⟩

theorem fnOneRow_holds : Rows.FnOneRowSaid :=
  OpenClaim.holds_of_wide 8 Try.f8 rfl rfl rfl rfl rfl rfl rfl ⟨rfl, rfl, rfl, rfl, rfl⟩ rfl rfl rfl rfl rfl (by kernel_rfl) Try.func8 (by kernel_rfl)
    (of_decide_eq_true (by kernel_rfl)) (by unfold Func.isWrapper; first | (rw [if_pos (by decide +kernel)]; kernel_rfl) | (rw [if_neg (by decide +kernel)]; exact ⟨rfl, rfl⟩))
    (fun os started H enc _ => fnOneRow_lifted os started H enc)

end Go.Proofs.Ytpgcpmfemcfoaaa
