
/-
  For every slice of bytes the law FnNearFirst returns true, and the slice reads behind the call as it read before. No condition.
-/
import Derived.Test.YtkbgkkempooplaaNearC
import Derived.Test.YtkbgkkempooplaaDrawN
import Derived.Test.YtkbgkkempooplaaDraw
import Derived.Test.YtkbgkkempooplaaLaws
namespace Go.Proofs.Ytkbgkkempooplaa
open Go.ChangeShapes Go.WideShapes Go.ChangeAt Go.RowKit

set_option maxRecDepth 100000 in
set_option maxHeartbeats 4000000 in
theorem fnNearFirst_all (aC : Option Addr) (kC : Nat) (lC : List UInt8) (w : World) (mC : lC.length ≤ maxLen) (zC : lC.length ≤ kC) (cC : CellsAt w aC (lC.map byteV)) :
    Calls Try.prog 6 #[.slice aC lC.length kC] w fun e w' => e = .returned (.bool true) ∧ Below w.heap.size w w' := by
  have mC2 := mC
  clear mC2
  by_cases dC : lC.length ≤ 1048576
  · have hdC : decide (1048576 < (lC.length : Int)) = false := by rw [decide_eq_false_iff_not]; omega
    go_enter Try.func6, Try.ntmps6
    go_wp2_with fail
    refine (drawNearFirst_any _ _ _ _ zC dC cC).mono ?_
    rintro e w1 ⟨⟨roP, rcP, lP, hsm, rfl, c_P⟩, hb⟩
    have hB := hb
    clear hb
    have LP : lP.length ≤ 1048576 := by have := hsm.2.1; omega
    have SP : ∀ s ∈ lP, s.size ≤ 1048576 := fun s h => by have := hsm.2.2 s h; omega
    have HI := Lib.hid (fun w c => implNearFirst_any roP rcP lP w LP SP c)
    have HS := Lib.hid (fun w c => specNearFirst_is roP rcP lP w LP SP c)
    cases hp : planB lP
    · -- no plan
      rw [hp, show firstL lP = [] by unfold firstL; rw [hp]; rfl] at HI HS
      go_wp2_with fail
      refine (HI.out _ c_P).mono ?_
      rintro e w2 ⟨⟨roO, rcO, rfl, ow⟩, hb⟩
      replace c_P := c_P.below hb
      replace hB := below_step hB hB.size hb
      clear hb
      have c_O := owns_cells ow
      clear ow
      go_wp2_with fail
      refine (HS.out _ c_P).mono ?_
      rintro e w3 ⟨⟨roW, rcW, rfl, ow⟩, hb⟩
      replace c_P := c_P.below hb
      replace c_O := c_O.below hb
      replace hB := below_step hB hB.size hb
      clear hb
      have c_W := owns_cells ow
      clear ow
      go_wp2_with fail
      refine (sameInts_any _ _ _ _ _ _ [] [] _ rfl rfl (Nat.zero_le _) c_O c_W).mono ?_
      rw [eqI_self]
      rintro e w4 ⟨rfl, hq⟩
      have hb := quiet_below hq
      clear hq
      replace c_P := c_P.below hb
      replace c_O := c_O.below hb
      replace c_W := c_W.below hb
      replace hB := below_step hB hB.size hb
      clear hb
      go_wp2_with fail
      refine (sameInts_any _ _ _ _ _ _ [] [] _ rfl rfl (Nat.zero_le _) c_O c_W).mono ?_
      rw [eqI_self]
      rintro e w5 ⟨rfl, hq⟩
      have hb := quiet_below hq
      clear hq
      replace c_P := c_P.below hb
      replace c_O := c_O.below hb
      replace c_W := c_W.below hb
      replace hB := below_step hB hB.size hb
      clear hb
      go_wp2
      go_ret
      exact ⟨rfl, hB⟩
    · -- a plan
      obtain ⟨L, hL, h1, h9, hn9, hlt, hz, hdif⟩ := firstC_math hp
      have HC := Lib.hid (fun w c => implNearColours_any roP rcP lP w LP SP c)
      have HN := Lib.hid (fun (a b : Int) w c => implNearIs_any roP rcP lP a b w LP SP c)
      rw [hp, hL] at HI HS
      rw [hp] at HC
      have HL := Lib.hid (show (L.map (fun b : Nat => (b : Int))).length = L.length from List.length_map _)
      have HD := Lib.hid hdif; have HT := Lib.hid hlt
      clear hdif hlt hL
      have HG := Lib.hid (fun (i : Nat) (hi : i < L.length) => show (L.map (fun b : Nat => (b : Int))).getD i 0 = ((L.getD i 0 : Nat) : Int) by rw [List.getD_eq_getElem?_getD, List.getElem?_map, List.getElem?_eq_getElem hi, List.getD_eq_getElem?_getD, List.getElem?_eq_getElem hi]; rfl)
      generalize hM : L.map (fun b : Nat => (b : Int)) = M at *
      clear hM hp
      generalize colsN lP = n at *
      have hml : M.length ≤ 9 := by rw [HL.out]; exact h9
      go_wp2_with fail
      refine (HI.out _ c_P).mono ?_
      rintro e w6 ⟨⟨roO, rcO, rfl, ow⟩, hb⟩
      replace c_P := c_P.below hb
      replace hB := below_step hB hB.size hb
      clear hb
      have c_O := owns_cells ow
      clear ow
      go_wp2_with fail
      refine (HS.out _ c_P).mono ?_
      rintro e w7 ⟨⟨roW, rcW, rfl, ow⟩, hb⟩
      replace c_P := c_P.below hb
      replace c_O := c_O.below hb
      replace hB := below_step hB hB.size hb
      clear hb
      have c_W := owns_cells ow
      clear ow
      go_wp2_with fail
      refine (sameInts_any _ _ _ _ _ _ M M _ rfl rfl (by unfold maxLen; omega) c_O c_W).mono ?_
      rw [eqI_self]
      rintro e w8 ⟨rfl, hq⟩
      have hb := quiet_below hq
      clear hq
      replace c_P := c_P.below hb
      replace c_O := c_O.below hb
      replace c_W := c_W.below hb
      replace hB := below_step hB hB.size hb
      clear hb
      go_wp2_with fail
      refine (HC.out _ c_P).mono ?_
      rintro e w9 ⟨rfl, hb⟩
      replace c_P := c_P.below hb
      replace c_O := c_O.below hb
      replace c_W := c_W.below hb
      replace hB := below_step hB hB.size hb
      clear hb
      have CP := Lib.hid c_P; have CO := Lib.hid c_O; have HB9 := Lib.hid hB; have HZ := Lib.hid hz
      clear c_P c_O c_W hB hz
      obtain ⟨m, hm⟩ : ∃ m, M.length = m := ⟨_, rfl⟩
      have HLM := Lib.hid hm
      rw [hm] at hml
      have h1m : 1 ≤ m := by have := HL.out; omega
      have HLL := Lib.hid (show L.length = m by rw [← HL.out, hm])
      rw [hm]
      clear hm h1 h9
      go_wp2
      go_loopw [10] (fun vi wr => ∃ i : Nat, i ≤ m ∧ vi = .int .i64 i ∧ Below w9.heap.size w9 wr) (fun vi _ => m - (intOf vi).toNat)
      case atStart => exact ⟨0, Nat.zero_le _, rfl, Below.refl _ _⟩
      case round =>
        obtain ⟨i, hi, rfl, hq⟩ := hrel
        by_cases hlt : i < m
        · have hlt' : decide ((i : Int) < (m : Int)) = true := by rw [decide_eq_true_eq]; omega
          obtain ⟨b, off, rfl, hck⟩ := (CO.out.below hq).int i (by rw [HLM.out]; exact hlt)
          rw [HG.out i (by rw [HLL.out]; exact hlt)] at hck
          have htx := HT.out i (by rw [HLL.out]; exact hlt)
          obtain ⟨X, hX⟩ : ∃ X, L.getD i 0 = X := ⟨_, rfl⟩
          rw [hX] at hck htx
          have HX := Lib.hid hX
          clear hX
          have hx0 : decide ((X : Int) < 0) = false := by rw [decide_eq_false_iff_not]; omega
          have hxn : decide ((n : Int) ≤ (X : Int)) = false := by rw [decide_eq_false_iff_not]; omega
          have hxm : decide (n ≤ X) = false := by rw [decide_eq_false_iff_not]; omega
          go_wp2
          go_loopw [11] (fun vj wm => ∃ j : Nat, j ≤ i ∧ vj = .int .i64 j ∧ Below w9.heap.size w9 wm) (fun vj _ => i - (intOf vj).toNat)
          case atStart => exact ⟨0, Nat.zero_le _, rfl, hq⟩
          case round =>
            clear hq hck
            obtain ⟨j, hj, rfl, hq⟩ := hrel
            by_cases hjl : j < i
            · have hjl' : decide ((j : Int) < (i : Int)) = true := by rw [decide_eq_true_eq]; omega
              obtain ⟨b1, o1, he1, hck⟩ := (CO.out.below hq).int i (by rw [HLM.out]; exact hlt)
              simp only [Option.some.injEq, Addr.mk.injEq, and_true] at he1
              obtain ⟨rfl, rfl⟩ := he1
              rw [HG.out i (by rw [HLL.out]; exact hlt), HX.out] at hck
              obtain ⟨b2, o2, he2, hck2⟩ := (CO.out.below hq).int j (by rw [HLM.out]; omega)
              simp only [Option.some.injEq, Addr.mk.injEq, and_true] at he2
              obtain ⟨rfl, rfl⟩ := he2
              rw [HG.out j (by rw [HLL.out]; omega)] at hck2
              have HDJ := Lib.hid (fun (he : X = L.getD j 0) => HD.out i j (by rw [HLL.out]; exact hlt) hjl (by rw [HX.out]; exact he))
              have hil : (i : Int) < (m : Int) := by omega
              have hjm : (j : Int) < (m : Int) := by omega
              have hjn : j < m := by omega
              generalize L.getD j 0 = Y at *
              by_cases hxy : X = Y
              · have HCL := Lib.hid (fun (d : Nat) (os : Array Obj) => Calls.regrown_of (HN.out (i : Int) (j : Int) (Sort.grow (redrawn wr d) os) ((CP.out.below hq).below (below_regrown wr d os))))
                rw [HDJ.out hxy] at HCL
                subst hxy
                have q1 : ∀ r : Regrown, (Sort.grow (redrawn wr r.d) r.os).cell? _ = some (.int .i64 (X : Int)) := fun r => cell_regrown hck r.d r.os
                have q2 : ∀ r : Regrown, (Sort.grow (redrawn wr r.d) r.os).cell? _ = some (.int .i64 (X : Int)) := fun r => cell_regrown hck2 r.d r.os
                go_wp2
                refine wp_region_quiet_below (by kernel_rfl) (by kernel_rfl) ?_
                repeat (first | go_big_quiet_step (with_reducible exact HCL.out _ _) | quiet_step (with_reducible exact HCL.out _ _))
                refine wpQuiet_nil ?_
                rintro _ ⟨r, rfl⟩
                have hb7 := below_regrown wr r.d r.os
                generalize Sort.grow (redrawn wr r.d) r.os = W7 at *
                have hq7 := below_step hq hq.size hb7
                go_wp2
                go_roundw
                case rel => exact ⟨j + 1, by omega, by go_num, hq7⟩
                case measure => simp [intOf]; omega
              · have hxd : ((X : Int) == (Y : Int)) = false := by rw [beq_eq_false_iff_ne]; omega
                go_wp2
                go_quiet (fail)
                go_wp2
                go_roundw
                case rel => exact ⟨j + 1, by omega, by go_num, hq.trans (below_drewN _ _ _)⟩
                case measure => simp [intOf]; omega
            · have hjl' : decide ((j : Int) < (i : Int)) = false := by rw [decide_eq_false_iff_not]; omega
              go_wp2
              go_roundw
              case rel => exact ⟨i + 1, by omega, by go_num, hq⟩
              case measure => simp [intOf]; omega
        · obtain rfl : i = m := by omega
          have hlt' : decide ((i : Int) < (i : Int)) = false := by rw [decide_eq_false_iff_not]; omega
          obtain ⟨b, off, rfl, hck⟩ := (CO.out.below hq).int 0 (by rw [HLM.out]; omega)
          rw [HG.out 0 (by rw [HLL.out]; omega), HZ.out] at hck
          have hck0 : wr.cell? ⟨b, off, none⟩ = some (.int .i64 0) := hck
          clear hck
          have hi0 : (0 : Int) < (i : Int) := by omega
          go_wp2
          go_ret
          exact ⟨rfl, below_step HB9.out HB9.out.size hq⟩
  · have hdC : decide (1048576 < (lC.length : Int)) = true := by rw [decide_eq_true_eq]; omega
    go_enter Try.func6, Try.ntmps6
    go_wp2
    go_ret
    exact ⟨rfl, Below.refl _ _⟩

set_option maxRecDepth 100000 in
theorem fnNearFirst_lifted (os : Os) (started : os.Started) (H : Type) (enc : TypeId × Value → H) :
    ReturnsInHanded {} Try.checked os 6 .any (Rows.fnNearFirstSpec.pre6 enc Try.prog Try.f6 Rows.fnNearFirstRow.domain false) (Rows.fnNearFirstSpec.post enc Try.prog Try.f6 false true false false) := by
  refine returnsInHanded_of_change (C := Try.checked) Try.own started (by kernel_rfl) Try.func6
    (ChangeSpec.witness6 (enc := enc) (C := Try.checked) false ⟨#[], #[.slice none 0 0], []⟩ 8 (by kernel_rfl) (by kernel_rfl) (by kernel_rfl) (by kernel_rfl)) ?_
  intro W base args ds gs before hval0 hW _ _
  have hval : ∀ (j : Nat) t v, Try.f6.params[j]? = some t → args[j]? = some v → Value.okWide Try.prog W .any base t v := hval0
  have hW' := hW
  obtain ⟨p, q, hA0, hV, rfl, _, _⟩ := hW
  have hA : DataW.TrodAll enc Try.prog W 0 (fun _ => true) true Try.f6.params.toList args.toList ds p := hA0
  rw [Try.params6] at hA hval
  obtain ⟨v0, d0, rfl, rfl, h0⟩ := trodAll_one hA
  obtain ⟨rfl, rfl⟩ := trodVars_none hV
  obtain ⟨aC, eC, kC, rfl⟩ := okWide_slice Try.underlying22 (hval 0 22 v0 rfl rfl)
  clear hA0 hval0
  simp only [List.append_nil] at hW'
  have hlt0 : ∀ x ∈ p, x.block < W.heap.size := fun x hx => by simpa using hW'.lt x (by simp [hx])
  obtain ⟨lC, rfl, mC, zC, cC⟩ := open_bytes h0
  refine (fnNearFirst_all aC kC lC W mC zC cC).mono fun e W' ⟨he, hb⟩ => ?_
  subst he
  refine ⟨_, rfl, _, _, _, [], _, [], hW', trodAll_mk1 (shut_bool Try.underlying4 _), trodAll_mk1 (Below.trod Try.laidOut (by kernel_rfl) (of_decide_eq_true (by kernel_rfl)) h0 hb hlt0), rfl, hb.frame _, fun h => by cases h⟩

theorem fnNearFirst_holds : Rows.FnNearFirstSaid :=
  OpenClaim.holds_of_wide 6 Try.f6 rfl rfl rfl rfl rfl rfl rfl ⟨rfl, rfl, rfl, rfl, rfl⟩ rfl rfl rfl rfl rfl (by kernel_rfl) Try.func6 (by kernel_rfl)
    (of_decide_eq_true (by kernel_rfl)) (by unfold Func.isWrapper; first | (rw [if_pos (by decide +kernel)]; kernel_rfl) | (rw [if_neg (by decide +kernel)]; exact ⟨rfl, rfl⟩))
    (fun os started H enc _ => fnNearFirst_lifted os started H enc)

end Go.Proofs.Ytkbgkkempooplaa
