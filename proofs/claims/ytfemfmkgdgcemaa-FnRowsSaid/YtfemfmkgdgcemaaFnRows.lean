
/-
  For every slice of bytes the law FnRows returns true, and the slice reads behind the call as it read before. No condition.
-/
import Derived.Test.YtfemfmkgdgcemaaShB
import Derived.Test.YtfemfmkgdgcemaaShK2
import Derived.Test.YtfemfmkgdgcemaaDrawH
import Derived.Test.YtfemfmkgdgcemaaPick
import Derived.Test.YtfemfmkgdgcemaaLawK
namespace Go.Proofs.Ytfemfmkgdgcemaa
open Go.ChangeShapes Go.WideShapes Go.ChangeAt Go.RowKit

set_option maxRecDepth 100000 in
set_option maxHeartbeats 4000000 in
theorem fnRows_all (aC : Option Addr) (kC : Nat) (lC : List UInt8) (w : World) (mC : lC.length ≤ maxLen) (zC : lC.length ≤ kC) (cC : CellsAt w aC (lC.map byteV)) :
    Calls Try.prog 5 #[.slice aC lC.length kC] w fun e w' => e = .returned (.bool true) ∧ Below w.heap.size w w' := by
  have mC2 := mC
  clear mC2
  by_cases dC : lC.length ≤ 1048576
  · have hdC : decide (1048576 < (lC.length : Int)) = false := by rw [decide_eq_false_iff_not]; omega
    go_enter Try.func5, Try.ntmps5
    go_wp2_with fail
    refine (drawSheetRows_any _ _ _ _ zC dC cC).mono ?_
    rintro e w1 ⟨nW, nH, nA, nB, rfl, hd, hb⟩
    have hB := hb
    clear hb
    cases hp : (shB nW nH && shB nA nB)
    · -- no such sheet, or piece
      have HI := Lib.hid (fun w => implSheetRows_any nW nH nA nB w)
      have HS := Lib.hid (fun w => specSheetRows_any nW nH nA nB w)
      unfold rowsO at HI HS
      rw [hp] at HI HS
      simp only [Bool.false_eq_true, if_false] at HI HS
      clear hp
      go_wp2_with fail
      refine (HI.out _).mono ?_
      rintro e w2 ⟨rfl, hb⟩
      replace hB := below_step hB hB.size hb
      clear hb
      go_wp2_with fail
      refine (HS.out _).mono ?_
      rintro e w3 ⟨rfl, hb⟩
      replace hB := below_step hB hB.size hb
      clear hb
      go_wp2
      go_ret
      exact ⟨rfl, hB⟩
    · rw [Bool.and_eq_true] at hp
      obtain ⟨h1, h2⟩ := hp
      obtain ⟨x, y, rfl, rfl, hx1, hx2, hy1, hy2⟩ := shB_yes h1
      obtain ⟨a, b, rfl, rfl, ha1, ha2, hb1, hb2⟩ := shB_yes h2
      have h3 := shB_nat hy1 hy2 hx1 hx2
      have h4 := shB_nat hb1 hb2 ha1 ha2
      have HI := Lib.hid (fun w => implSheetRows_any x y a b w)
      have HS := Lib.hid (fun w => specSheetRows_any x y a b w)
      have H2 := Lib.hid (fun w => implSheetRows_any y x a b w)
      simp only [rowsO, h1, h2, Bool.and_self, if_true, Int.toNat_natCast] at HI HS
      simp only [rowsO, h3, h2, Bool.and_self, if_true, Int.toNat_natCast] at H2
      rw [← rowsN_flip x y a b] at H2
      have hz := rowsN_zero x y a b ha1 hb1
      clear h1 h2 h3 h4 hd
      have hi : ∀ (p q r s : Bool), decide ((x : Int) < (a : Int)) = p → decide ((y : Int) < (b : Int)) = q → decide ((y : Int) < (a : Int)) = r → decide ((x : Int) < (b : Int)) = s → (((rowsN x y a b : Nat) : Int) == 0) = ((p || q) && (r || s)) := fun p q r s e1 e2 e3 e4 => by
        rw [← e1, ← e2, ← e3, ← e4, Bool.eq_iff_iff, beq_iff_eq, Bool.and_eq_true, Bool.or_eq_true, Bool.or_eq_true, decide_eq_true_eq, decide_eq_true_eq, decide_eq_true_eq, decide_eq_true_eq]
        omega
      have HZ := Lib.hid hi
      clear hz hi
      generalize ((rowsN x y a b : Nat) : Int) = v at *
      rcases Bool.eq_false_or_eq_true (decide ((x : Int) < (a : Int))) with e1 | e1
      · skip
        rcases Bool.eq_false_or_eq_true (decide ((y : Int) < (a : Int))) with e3 | e3
        · skip
          have hv := HZ.out true _ true _ e1 rfl e3 rfl
          simp only [Bool.and_self, Bool.true_or] at hv
          clear HZ
          have n1 : decide (x < a) = true := by rw [← e1, decide_eq_decide]; omega
          have n3 : decide (y < a) = true := by rw [← e3, decide_eq_decide]; omega
          go_wp2_with fail
          refine (HI.out _).mono ?_
          rintro e w4 ⟨rfl, hb⟩
          replace hB := below_step hB hB.size hb
          clear hb
          go_wp2_with fail
          refine (HS.out _).mono ?_
          rintro e w5 ⟨rfl, hb⟩
          replace hB := below_step hB hB.size hb
          clear hb
          go_wp2_with fail
          refine (H2.out _).mono ?_
          rintro e w6 ⟨rfl, hb⟩
          replace hB := below_step hB hB.size hb
          clear hb
          go_wp2
          go_ret
          exact ⟨rfl, hB⟩
        · skip
          rcases Bool.eq_false_or_eq_true (decide ((x : Int) < (b : Int))) with e4 | e4
          · skip
            have hv := HZ.out true _ false true e1 rfl e3 e4
            simp only [Bool.and_self, Bool.or_true, Bool.true_or] at hv
            clear HZ
            have n1 : decide (x < a) = true := by rw [← e1, decide_eq_decide]; omega
            have n3 : decide (y < a) = false := by rw [← e3, decide_eq_decide]; omega
            have n4 : decide (x < b) = true := by rw [← e4, decide_eq_decide]; omega
            go_wp2_with fail
            refine (HI.out _).mono ?_
            rintro e w4 ⟨rfl, hb⟩
            replace hB := below_step hB hB.size hb
            clear hb
            go_wp2_with fail
            refine (HS.out _).mono ?_
            rintro e w5 ⟨rfl, hb⟩
            replace hB := below_step hB hB.size hb
            clear hb
            go_wp2_with fail
            refine (H2.out _).mono ?_
            rintro e w6 ⟨rfl, hb⟩
            replace hB := below_step hB hB.size hb
            clear hb
            go_wp2
            go_ret
            exact ⟨rfl, hB⟩
          · skip
            have hv := HZ.out true _ false false e1 rfl e3 e4
            simp only [Bool.and_false, Bool.or_self, Bool.true_or] at hv
            clear HZ
            have n1 : decide (x < a) = true := by rw [← e1, decide_eq_decide]; omega
            have n3 : decide (y < a) = false := by rw [← e3, decide_eq_decide]; omega
            have n4 : decide (x < b) = false := by rw [← e4, decide_eq_decide]; omega
            go_wp2_with fail
            refine (HI.out _).mono ?_
            rintro e w4 ⟨rfl, hb⟩
            replace hB := below_step hB hB.size hb
            clear hb
            go_wp2_with fail
            refine (HS.out _).mono ?_
            rintro e w5 ⟨rfl, hb⟩
            replace hB := below_step hB hB.size hb
            clear hb
            go_wp2_with fail
            refine (H2.out _).mono ?_
            rintro e w6 ⟨rfl, hb⟩
            replace hB := below_step hB hB.size hb
            clear hb
            go_wp2
            go_ret
            exact ⟨rfl, hB⟩
      · skip
        rcases Bool.eq_false_or_eq_true (decide ((y : Int) < (b : Int))) with e2 | e2
        · skip
          rcases Bool.eq_false_or_eq_true (decide ((y : Int) < (a : Int))) with e3 | e3
          · skip
            have hv := HZ.out false true true _ e1 e2 e3 rfl
            simp only [Bool.and_self, Bool.or_true, Bool.true_or] at hv
            clear HZ
            have n1 : decide (x < a) = false := by rw [← e1, decide_eq_decide]; omega
            have n2 : decide (y < b) = true := by rw [← e2, decide_eq_decide]; omega
            have n3 : decide (y < a) = true := by rw [← e3, decide_eq_decide]; omega
            go_wp2_with fail
            refine (HI.out _).mono ?_
            rintro e w4 ⟨rfl, hb⟩
            replace hB := below_step hB hB.size hb
            clear hb
            go_wp2_with fail
            refine (HS.out _).mono ?_
            rintro e w5 ⟨rfl, hb⟩
            replace hB := below_step hB hB.size hb
            clear hb
            go_wp2_with fail
            refine (H2.out _).mono ?_
            rintro e w6 ⟨rfl, hb⟩
            replace hB := below_step hB hB.size hb
            clear hb
            go_wp2
            go_ret
            exact ⟨rfl, hB⟩
          · skip
            rcases Bool.eq_false_or_eq_true (decide ((x : Int) < (b : Int))) with e4 | e4
            · skip
              have hv := HZ.out false true false true e1 e2 e3 e4
              simp only [Bool.and_self, Bool.or_true] at hv
              clear HZ
              have n1 : decide (x < a) = false := by rw [← e1, decide_eq_decide]; omega
              have n2 : decide (y < b) = true := by rw [← e2, decide_eq_decide]; omega
              have n3 : decide (y < a) = false := by rw [← e3, decide_eq_decide]; omega
              have n4 : decide (x < b) = true := by rw [← e4, decide_eq_decide]; omega
              go_wp2_with fail
              refine (HI.out _).mono ?_
              rintro e w4 ⟨rfl, hb⟩
              replace hB := below_step hB hB.size hb
              clear hb
              go_wp2_with fail
              refine (HS.out _).mono ?_
              rintro e w5 ⟨rfl, hb⟩
              replace hB := below_step hB hB.size hb
              clear hb
              go_wp2_with fail
              refine (H2.out _).mono ?_
              rintro e w6 ⟨rfl, hb⟩
              replace hB := below_step hB hB.size hb
              clear hb
              go_wp2
              go_ret
              exact ⟨rfl, hB⟩
            · skip
              have hv := HZ.out false true false false e1 e2 e3 e4
              simp only [Bool.and_false, Bool.or_self, Bool.or_true] at hv
              clear HZ
              have n1 : decide (x < a) = false := by rw [← e1, decide_eq_decide]; omega
              have n2 : decide (y < b) = true := by rw [← e2, decide_eq_decide]; omega
              have n3 : decide (y < a) = false := by rw [← e3, decide_eq_decide]; omega
              have n4 : decide (x < b) = false := by rw [← e4, decide_eq_decide]; omega
              go_wp2_with fail
              refine (HI.out _).mono ?_
              rintro e w4 ⟨rfl, hb⟩
              replace hB := below_step hB hB.size hb
              clear hb
              go_wp2_with fail
              refine (HS.out _).mono ?_
              rintro e w5 ⟨rfl, hb⟩
              replace hB := below_step hB hB.size hb
              clear hb
              go_wp2_with fail
              refine (H2.out _).mono ?_
              rintro e w6 ⟨rfl, hb⟩
              replace hB := below_step hB hB.size hb
              clear hb
              go_wp2
              go_ret
              exact ⟨rfl, hB⟩
        · skip
          have hv := HZ.out false false _ _ e1 e2 rfl rfl
          simp only [Bool.false_and, Bool.or_self] at hv
          clear HZ
          have n1 : decide (x < a) = false := by rw [← e1, decide_eq_decide]; omega
          have n2 : decide (y < b) = false := by rw [← e2, decide_eq_decide]; omega
          go_wp2_with fail
          refine (HI.out _).mono ?_
          rintro e w4 ⟨rfl, hb⟩
          replace hB := below_step hB hB.size hb
          clear hb
          go_wp2_with fail
          refine (HS.out _).mono ?_
          rintro e w5 ⟨rfl, hb⟩
          replace hB := below_step hB hB.size hb
          clear hb
          go_wp2_with fail
          refine (H2.out _).mono ?_
          rintro e w6 ⟨rfl, hb⟩
          replace hB := below_step hB hB.size hb
          clear hb
          go_wp2
          go_ret
          exact ⟨rfl, hB⟩
  · have hdC : decide (1048576 < (lC.length : Int)) = true := by rw [decide_eq_true_eq]; omega
    go_enter Try.func5, Try.ntmps5
    go_wp2
    go_ret
    exact ⟨rfl, Below.refl _ _⟩

set_option maxRecDepth 100000 in
theorem fnRows_lifted (os : Os) (started : os.Started) (H : Type) (enc : TypeId × Value → H) :
    ReturnsInHanded {} Try.checked os 5 .any (Rows.fnRowsSpec.pre6 enc Try.prog Try.f5 Rows.fnRowsRow.domain false) (Rows.fnRowsSpec.post enc Try.prog Try.f5 false true false false) := by
  refine returnsInHanded_of_change (C := Try.checked) Try.own started (by kernel_rfl) Try.func5
    (ChangeSpec.witness6 (enc := enc) (C := Try.checked) false ⟨#[], #[.slice none 0 0], []⟩ 8 (by kernel_rfl) (by kernel_rfl) (by kernel_rfl) (by kernel_rfl)) ?_
  intro W base args ds gs before hval0 hW _ _
  have hval : ∀ (j : Nat) t v, Try.f5.params[j]? = some t → args[j]? = some v → Value.okWide Try.prog W .any base t v := hval0
  have hW' := hW
  obtain ⟨p, q, hA0, hV, rfl, _, _⟩ := hW
  have hA : DataW.TrodAll enc Try.prog W 0 (fun _ => true) true Try.f5.params.toList args.toList ds p := hA0
  rw [Try.params5] at hA hval
  obtain ⟨v0, d0, rfl, rfl, h0⟩ := trodAll_one hA
  obtain ⟨rfl, rfl⟩ := trodVars_none hV
  obtain ⟨aC, eC, kC, rfl⟩ := okWide_slice Try.underlying22 (hval 0 22 v0 rfl rfl)
  clear hA0 hval0
  simp only [List.append_nil] at hW'
  have hlt0 : ∀ x ∈ p, x.block < W.heap.size := fun x hx => by simpa using hW'.lt x (by simp [hx])
  obtain ⟨lC, rfl, mC, zC, cC⟩ := open_bytes h0
  refine (fnRows_all aC kC lC W mC zC cC).mono fun e W' ⟨he, hb⟩ => ?_
  subst he
  refine ⟨_, rfl, _, _, _, [], _, [], hW', trodAll_mk1 (shut_bool Try.underlying4 _), trodAll_mk1 (Below.trod Try.laidOut (by kernel_rfl) (of_decide_eq_true (by kernel_rfl)) h0 hb hlt0), rfl, hb.frame _, fun h => by cases h⟩

theorem fnRows_holds : Rows.FnRowsSaid :=
  OpenClaim.holds_of_wide 5 Try.f5 rfl rfl rfl rfl rfl rfl rfl ⟨rfl, rfl, rfl, rfl, rfl⟩ rfl rfl rfl rfl rfl (by kernel_rfl) Try.func5 (by kernel_rfl)
    (of_decide_eq_true (by kernel_rfl)) (by unfold Func.isWrapper; first | (rw [if_pos (by decide +kernel)]; kernel_rfl) | (rw [if_neg (by decide +kernel)]; exact ⟨rfl, rfl⟩))
    (fun os started H enc _ => fnRows_lifted os started H enc)

end Go.Proofs.Ytfemfmkgdgcemaa
