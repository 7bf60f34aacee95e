
/-
  For every slice of bytes the law FnSquares returns true, and the slice reads behind the call as it read before. No condition.
-/
import Derived.Test.YtfemfmkgdgcemaaShJ
import Derived.Test.YtfemfmkgdgcemaaShK2
import Derived.Test.YtfemfmkgdgcemaaDrawH
import Derived.Test.YtfemfmkgdgcemaaPick
import Derived.Test.YtfemfmkgdgcemaaLawK
namespace Go.Proofs.Ytfemfmkgdgcemaa
open Go.ChangeShapes Go.WideShapes Go.ChangeAt Go.RowKit

set_option maxRecDepth 100000 in
set_option maxHeartbeats 4000000 in
theorem fnSquares_all (aC : Option Addr) (kC : Nat) (lC : List UInt8) (w : World) (mC : lC.length ≤ maxLen) (zC : lC.length ≤ kC) (cC : CellsAt w aC (lC.map byteV)) :
    Calls Try.prog 7 #[.slice aC lC.length kC] w fun e w' => e = .returned (.bool true) ∧ Below w.heap.size w w' := by
  have mC2 := mC
  clear mC2
  by_cases dC : lC.length ≤ 1048576
  · have hdC : decide (1048576 < (lC.length : Int)) = false := by rw [decide_eq_false_iff_not]; omega
    go_enter Try.func7, Try.ntmps7
    go_wp2_with fail
    refine (drawSheetSquares_any _ _ _ _ zC dC cC).mono ?_
    rintro e w1 ⟨nW, nH, rfl, hd, hb⟩
    have hB := hb
    clear hb
    cases hp : shB nW nH
    · -- no such sheet
      have HI := Lib.hid (fun w => implSheetSquares_any nW nH w)
      have HS := Lib.hid (fun w => specSheetSquares_any nW nH w)
      unfold squaO at HI HS
      rw [hp] at HI HS
      simp only [Bool.false_eq_true, if_false] at HI HS
      clear hp
      go_wp2_with fail
      refine (HI.out _).mono ?_
      rintro e w2 ⟨rfl, hb⟩
      replace hB := below_step hB hB.size hb
      clear hb
      go_wp2_with fail
      refine (HS.out _).mono ?_
      rintro e w3 ⟨rfl, hb⟩
      replace hB := below_step hB hB.size hb
      clear hb
      go_wp2
      go_ret
      exact ⟨rfl, hB⟩
    · obtain ⟨x, y, rfl, rfl, hx1, hx2, hy1, hy2⟩ := shB_yes hp
      have h3 := shB_nat hy1 hy2 hx1 hx2
      have HI := Lib.hid (fun w => implSheetSquares_any x y w)
      have HS := Lib.hid (fun w => specSheetSquares_any x y w)
      simp only [squaO, hp, if_true, Int.toNat_natCast] at HI HS
      have H2 := Lib.hid (fun w => implSheetSquares_any y x w)
      have H3 := Lib.hid (fun w => implSheetGreedy_any x y w)
      simp only [squaO, h3, if_true, Int.toNat_natCast] at H2
      simp only [greO, hp, if_true, Int.toNat_natCast] at H3
      rw [← squaN_flip hx1 hy1 hx2 hy2] at H2
      have f1 := squaN_gre hx1 hy1 hx2 hy2
      obtain ⟨f2, f3⟩ := squaN_one hx1 hy1 hx2 hy2
      have f4 : (0 : Int) ≤ ((greN x y : Nat) : Int) := Int.natCast_nonneg _
      generalize ((greN x y : Nat) : Int) = z at *
      generalize squaN x y = v at *
      clear h3 hd hp
      by_cases hxy : x = y
      · obtain rfl : v = 1 := f3.2 hxy
        subst hxy
        clear f3
        go_wp2_with fail
        refine (HI.out _).mono ?_
        rintro e w4 ⟨rfl, hb⟩
        replace hB := below_step hB hB.size hb
        clear hb
        go_wp2_with fail
        refine (HS.out _).mono ?_
        rintro e w5 ⟨rfl, hb⟩
        replace hB := below_step hB hB.size hb
        clear hb
        go_wp2_with fail
        refine (H2.out _).mono ?_
        rintro e w6 ⟨rfl, hb⟩
        replace hB := below_step hB hB.size hb
        clear hb
        go_wp2_with fail
        refine (H3.out _).mono ?_
        rintro e w7 ⟨rfl, hb⟩
        replace hB := below_step hB hB.size hb
        clear hb
        go_wp2
        go_ret
        exact ⟨rfl, hB⟩
      · have hv : (v == 1) = false := by rw [beq_eq_false_iff_ne]; exact fun e => hxy (f3.1 e)
        have e1 : ((x : Int) == (y : Int)) = false := by rw [beq_eq_false_iff_ne]; omega
        have e2 : (x == y) = false := by rw [beq_eq_false_iff_ne]; exact hxy
        clear f3
        go_wp2_with fail
        refine (HI.out _).mono ?_
        rintro e w4 ⟨rfl, hb⟩
        replace hB := below_step hB hB.size hb
        clear hb
        go_wp2_with fail
        refine (HS.out _).mono ?_
        rintro e w5 ⟨rfl, hb⟩
        replace hB := below_step hB hB.size hb
        clear hb
        go_wp2_with fail
        refine (H2.out _).mono ?_
        rintro e w6 ⟨rfl, hb⟩
        replace hB := below_step hB hB.size hb
        clear hb
        go_wp2_with fail
        refine (H3.out _).mono ?_
        rintro e w7 ⟨rfl, hb⟩
        replace hB := below_step hB hB.size hb
        clear hb
        go_wp2
        go_ret
        exact ⟨rfl, hB⟩
  · have hdC : decide (1048576 < (lC.length : Int)) = true := by rw [decide_eq_true_eq]; omega
    go_enter Try.func7, Try.ntmps7
    go_wp2
    go_ret
    exact ⟨rfl, Below.refl _ _⟩

set_option maxRecDepth 100000 in
theorem fnSquares_lifted (os : Os) (started : os.Started) (H : Type) (enc : TypeId × Value → H) :
    ReturnsInHanded {} Try.checked os 7 .any (Rows.fnSquaresSpec.pre6 enc Try.prog Try.f7 Rows.fnSquaresRow.domain false) (Rows.fnSquaresSpec.post enc Try.prog Try.f7 false true false false) := by
  refine returnsInHanded_of_change (C := Try.checked) Try.own started (by kernel_rfl) Try.func7
    (ChangeSpec.witness6 (enc := enc) (C := Try.checked) false ⟨#[], #[.slice none 0 0], []⟩ 8 (by kernel_rfl) (by kernel_rfl) (by kernel_rfl) (by kernel_rfl)) ?_
  intro W base args ds gs before hval0 hW _ _
  have hval : ∀ (j : Nat) t v, Try.f7.params[j]? = some t → args[j]? = some v → Value.okWide Try.prog W .any base t v := hval0
  have hW' := hW
  obtain ⟨p, q, hA0, hV, rfl, _, _⟩ := hW
  have hA : DataW.TrodAll enc Try.prog W 0 (fun _ => true) true Try.f7.params.toList args.toList ds p := hA0
  rw [Try.params7] at hA hval
  obtain ⟨v0, d0, rfl, rfl, h0⟩ := trodAll_one hA
  obtain ⟨rfl, rfl⟩ := trodVars_none hV
  obtain ⟨aC, eC, kC, rfl⟩ := okWide_slice Try.underlying22 (hval 0 22 v0 rfl rfl)
  clear hA0 hval0
  simp only [List.append_nil] at hW'
  have hlt0 : ∀ x ∈ p, x.block < W.heap.size := fun x hx => by simpa using hW'.lt x (by simp [hx])
  obtain ⟨lC, rfl, mC, zC, cC⟩ := open_bytes h0
  refine (fnSquares_all aC kC lC W mC zC cC).mono fun e W' ⟨he, hb⟩ => ?_
  subst he
  refine ⟨_, rfl, _, _, _, [], _, [], hW', trodAll_mk1 (shut_bool Try.underlying4 _), trodAll_mk1 (Below.trod Try.laidOut (by kernel_rfl) (of_decide_eq_true (by kernel_rfl)) h0 hb hlt0), rfl, hb.frame _, fun h => by cases h⟩

theorem fnSquares_holds : Rows.FnSquaresSaid :=
  OpenClaim.holds_of_wide 7 Try.f7 rfl rfl rfl rfl rfl rfl rfl ⟨rfl, rfl, rfl, rfl, rfl⟩ rfl rfl rfl rfl rfl (by kernel_rfl) Try.func7 (by kernel_rfl)
    (of_decide_eq_true (by kernel_rfl)) (by unfold Func.isWrapper; first | (rw [if_pos (by decide +kernel)]; kernel_rfl) | (rw [if_neg (by decide +kernel)]; exact ⟨rfl, rfl⟩))
    (fun os started H enc _ => fnSquares_lifted os started H enc)

end Go.Proofs.Ytfemfmkgdgcemaa
