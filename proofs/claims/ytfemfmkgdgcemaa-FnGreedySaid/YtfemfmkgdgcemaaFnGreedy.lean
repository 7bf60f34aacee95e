
/-
  For every slice of bytes the law FnGreedy returns true, and the slice reads behind the call as it read before. No condition.
-/
import Derived.Test.YtfemfmkgdgcemaaShB
import Derived.Test.YtfemfmkgdgcemaaShK2
import Derived.Test.YtfemfmkgdgcemaaDrawH
import Derived.Test.YtfemfmkgdgcemaaPick
import Derived.Test.YtfemfmkgdgcemaaLawK
namespace Go.Proofs.Ytfemfmkgdgcemaa
open Go.ChangeShapes Go.WideShapes Go.ChangeAt Go.RowKit

set_option maxRecDepth 100000 in
set_option maxHeartbeats 4000000 in
theorem fnGreedy_all (aC : Option Addr) (kC : Nat) (lC : List UInt8) (w : World) (mC : lC.length ≤ maxLen) (zC : lC.length ≤ kC) (cC : CellsAt w aC (lC.map byteV)) :
    Calls Try.prog 8 #[.slice aC lC.length kC] w fun e w' => e = .returned (.bool true) ∧ Below w.heap.size w w' := by
  have mC2 := mC
  clear mC2
  by_cases dC : lC.length ≤ 1048576
  · have hdC : decide (1048576 < (lC.length : Int)) = false := by rw [decide_eq_false_iff_not]; omega
    go_enter Try.func8, Try.ntmps8
    go_wp2_with fail
    refine (drawSheetGreedy_any _ _ _ _ zC dC cC).mono ?_
    rintro e w1 ⟨nW, nH, rfl, hd, hb⟩
    have hB := hb
    clear hb
    cases hp : shB nW nH
    · -- no such sheet
      have HI := Lib.hid (fun w => implSheetGreedy_any nW nH w)
      have HS := Lib.hid (fun w => specSheetGreedy_any nW nH w)
      unfold greO at HI HS
      rw [hp] at HI HS
      simp only [Bool.false_eq_true, if_false] at HI HS
      clear hp
      go_wp2_with fail
      refine (HI.out _).mono ?_
      rintro e w2 ⟨rfl, hb⟩
      replace hB := below_step hB hB.size hb
      clear hb
      go_wp2_with fail
      refine (HS.out _).mono ?_
      rintro e w3 ⟨rfl, hb⟩
      replace hB := below_step hB hB.size hb
      clear hb
      go_wp2
      go_ret
      exact ⟨rfl, hB⟩
    · obtain ⟨x, y, rfl, rfl, hx1, hx2, hy1, hy2⟩ := shB_yes hp
      have h3 := shB_nat hy1 hy2 hx1 hx2
      have HI := Lib.hid (fun w => implSheetGreedy_any x y w)
      have HS := Lib.hid (fun w => specSheetGreedy_any x y w)
      simp only [greO, hp, if_true, Int.toNat_natCast] at HI HS
      rcases Nat.lt_or_ge y x with hlt | hge
      · have h4 := shB_nat (show 1 ≤ x - y by omega) (show x - y ≤ 12 by omega) hy1 hy2
        have H2 := Lib.hid (fun w => implSheetGreedy_any ((x - y : Nat) : Int) y w)
        simp only [greO, h4, if_true, Int.toNat_natCast] at H2
        have hg := greN_wide hy1 hlt
        rw [hg] at HI HS
        have hbd := greN_bd (show 1 ≤ x - y by omega) (show x - y ≤ 12 by omega) hy1 hy2
        have hsub : ((x - y : Nat) : Int) = (x : Int) - (y : Int) := by omega
        rw [hsub] at H2
        have d1 : decide ((x : Int) ≤ (y : Int)) = false := decide_eq_false (by omega)
        have d2 : decide (x ≤ y) = false := decide_eq_false (by omega)
        rw [Int.natCast_add] at HI HS
        have hn0 : (0 : Int) ≤ ((greN (x - y) y : Nat) : Int) := Int.natCast_nonneg _
        have hn1 : ((greN (x - y) y : Nat) : Int) ≤ 24 := by omega
        generalize ((greN (x - y) y : Nat) : Int) = v at *
        clear h3 h4 hd hg hbd hsub hp
        go_wp2_with fail
        refine (HI.out _).mono ?_
        rintro e w4 ⟨rfl, hb⟩
        replace hB := below_step hB hB.size hb
        clear hb
        go_wp2_with fail
        refine (HS.out _).mono ?_
        rintro e w5 ⟨rfl, hb⟩
        replace hB := below_step hB hB.size hb
        clear hb
        go_wp2_with fail
        refine (H2.out _).mono ?_
        rintro e w6 ⟨rfl, hb⟩
        replace hB := below_step hB hB.size hb
        clear hb
        go_wp2
        go_ret
        exact ⟨rfl, hB⟩
      · have H2 := Lib.hid (fun w => implSheetGreedy_any y x w)
        simp only [greO, h3, if_true, Int.toNat_natCast] at H2
        rw [← greN_flip (x + y) x y (Nat.le_refl _) hx1 hy1] at H2
        have d1 : decide ((x : Int) ≤ (y : Int)) = true := decide_eq_true (by omega)
        generalize ((greN x y : Nat) : Int) = v at *
        clear h3 hd hp
        go_wp2_with fail
        refine (HI.out _).mono ?_
        rintro e w4 ⟨rfl, hb⟩
        replace hB := below_step hB hB.size hb
        clear hb
        go_wp2_with fail
        refine (HS.out _).mono ?_
        rintro e w5 ⟨rfl, hb⟩
        replace hB := below_step hB hB.size hb
        clear hb
        go_wp2_with fail
        refine (H2.out _).mono ?_
        rintro e w6 ⟨rfl, hb⟩
        replace hB := below_step hB hB.size hb
        clear hb
        go_wp2
        go_ret
        exact ⟨rfl, hB⟩
  · have hdC : decide (1048576 < (lC.length : Int)) = true := by rw [decide_eq_true_eq]; omega
    go_enter Try.func8, Try.ntmps8
    go_wp2
    go_ret
    exact ⟨rfl, Below.refl _ _⟩

set_option maxRecDepth 100000 in
theorem fnGreedy_lifted (os : Os) (started : os.Started) (H : Type) (enc : TypeId × Value → H) :
    ReturnsInHanded {} Try.checked os 8 .any (Rows.fnGreedySpec.pre6 enc Try.prog Try.f8 Rows.fnGreedyRow.domain false) (Rows.fnGreedySpec.post enc Try.prog Try.f8 false true false false) := by
  refine returnsInHanded_of_change (C := Try.checked) Try.own started (by kernel_rfl) Try.func8
    (ChangeSpec.witness6 (enc := enc) (C := Try.checked) false ⟨#[], #[.slice none 0 0], []⟩ 8 (by kernel_rfl) (by kernel_rfl) (by kernel_rfl) (by kernel_rfl)) ?_
  intro W base args ds gs before hval0 hW _ _
  have hval : ∀ (j : Nat) t v, Try.f8.params[j]? = some t → args[j]? = some v → Value.okWide Try.prog W .any base t v := hval0
  have hW' := hW
  obtain ⟨p, q, hA0, hV, rfl, _, _⟩ := hW
  have hA : DataW.TrodAll enc Try.prog W 0 (fun _ => true) true Try.f8.params.toList args.toList ds p := hA0
  rw [Try.params8] at hA hval
  obtain ⟨v0, d0, rfl, rfl, h0⟩ := trodAll_one hA
  obtain ⟨rfl, rfl⟩ := trodVars_none hV
  obtain ⟨aC, eC, kC, rfl⟩ := okWide_slice Try.underlying22 (hval 0 22 v0 rfl rfl)
  clear hA0 hval0
  simp only [List.append_nil] at hW'
  have hlt0 : ∀ x ∈ p, x.block < W.heap.size := fun x hx => by simpa using hW'.lt x (by simp [hx])
  obtain ⟨lC, rfl, mC, zC, cC⟩ := open_bytes h0
  refine (fnGreedy_all aC kC lC W mC zC cC).mono fun e W' ⟨he, hb⟩ => ?_
  subst he
  refine ⟨_, rfl, _, _, _, [], _, [], hW', trodAll_mk1 (shut_bool Try.underlying4 _), trodAll_mk1 (Below.trod Try.laidOut (by kernel_rfl) (of_decide_eq_true (by kernel_rfl)) h0 hb hlt0), rfl, hb.frame _, fun h => by cases h⟩

theorem fnGreedy_holds : Rows.FnGreedySaid :=
  OpenClaim.holds_of_wide 8 Try.f8 rfl rfl rfl rfl rfl rfl rfl ⟨rfl, rfl, rfl, rfl, rfl⟩ rfl rfl rfl rfl rfl (by kernel_rfl) Try.func8 (by kernel_rfl)
    (of_decide_eq_true (by kernel_rfl)) (by unfold Func.isWrapper; first | (rw [if_pos (by decide +kernel)]; kernel_rfl) | (rw [if_neg (by decide +kernel)]; exact ⟨rfl, rfl⟩))
    (fun os started H enc _ => fnGreedy_lifted os started H enc)

end Go.Proofs.Ytfemfmkgdgcemaa
