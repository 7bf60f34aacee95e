
/-
  For every slice of bytes the law FnNearOut returns true, and the slice reads behind the call as it read before. No condition.
-/
import Derived.Test.YtjdlapcikpmdgaaOutN
import Derived.Test.YtjdlapcikpmdgaaOutS
import Derived.Test.YtjdlapcikpmdgaaDrawX
import Derived.Test.YtjdlapcikpmdgaaDraw
import Derived.Test.YtjdlapcikpmdgaaLaws
namespace Go.Proofs.Ytjdlapcikpmdgaa
open Go.ChangeShapes Go.WideShapes Go.ChangeAt Go.RowKit

set_option maxRecDepth 100000 in
set_option maxHeartbeats 4000000 in
theorem fnNearOut_all (aC : Option Addr) (kC : Nat) (lC : List UInt8) (w : World) (mC : lC.length ≤ maxLen) (zC : lC.length ≤ kC) (cC : CellsAt w aC (lC.map byteV)) :
    Calls Try.prog 4 #[.slice aC lC.length kC] w fun e w' => e = .returned (.bool true) ∧ Below w.heap.size w w' := by
  have mC2 := mC
  clear mC2
  by_cases dC : lC.length ≤ 1048576
  · have hdC : decide (1048576 < (lC.length : Int)) = false := by rw [decide_eq_false_iff_not]; omega
    go_enter Try.func4, Try.ntmps4
    go_wp2_with fail
    refine (drawNearOut_any _ _ _ _ zC dC cC).mono ?_
    rintro e w1 ⟨⟨roP, rcP, lP, nS, hsm, rfl, c_P⟩, hb⟩
    have hB := hb
    clear hb
    have LP : lP.length ≤ 1048576 := by have := hsm.2.1; omega
    have SP : ∀ s ∈ lP, s.size ≤ 1048576 := fun s h => by have := hsm.2.2 s h; omega
    cases hp : outOk lP nS
    · -- no side
      have HI := Lib.hid (fun w c => implNearOut_any roP rcP lP nS w LP SP c)
      have HS := Lib.hid (fun w c => specNearOut_any roP rcP lP nS w LP SP c)
      rw [hp, show outL lP nS = [] by unfold outL; rw [hp]; rfl] at HI HS
      clear hp
      go_wp2_with fail
      refine (HI.out _ c_P).mono ?_
      rintro e w2 ⟨⟨roO, rcO, rfl, ow⟩, hb⟩
      replace c_P := c_P.below hb
      replace hB := below_step hB hB.size hb
      clear hb
      have c_O := owns_cells ow
      clear ow
      go_wp2_with fail
      refine (HS.out _ c_P).mono ?_
      rintro e w3 ⟨⟨roW, rcW, rfl, ow⟩, hb⟩
      replace c_P := c_P.below hb
      replace c_O := c_O.below hb
      replace hB := below_step hB hB.size hb
      clear hb
      have c_W := owns_cells ow
      clear ow
      go_wp2_with fail
      refine (sameInts_any _ _ _ _ _ _ [] [] _ rfl rfl (by exact Nat.zero_le _) c_O c_W).mono ?_
      rw [eqI_self]
      rintro e w4 ⟨rfl, hq⟩
      have hb := quiet_below hq
      clear hq
      replace c_P := c_P.below hb
      replace c_O := c_O.below hb
      replace c_W := c_W.below hb
      replace hB := below_step hB hB.size hb
      clear hb
      go_wp2_with fail
      refine (sameInts_any _ _ _ _ _ _ [] [] _ rfl rfl (by exact Nat.zero_le _) c_O c_W).mono ?_
      rw [eqI_self]
      rintro e w5 ⟨rfl, hq⟩
      have hb := quiet_below hq
      clear hq
      replace c_P := c_P.below hb
      replace c_O := c_O.below hb
      replace c_W := c_W.below hb
      replace hB := below_step hB hB.size hb
      clear hb
      go_wp2
      go_ret
      exact ⟨rfl, hB⟩
    · -- a side
      have HI := Lib.hid (fun w c => implNearOut_any roP rcP lP nS w LP SP c)
      have HS := Lib.hid (fun w c => specNearOut_any roP rcP lP nS w LP SP c)
      have HN := Lib.hid (fun (x y : Int) w c => implNearIs_any roP rcP lP x y w LP SP c)
      obtain ⟨m1, m2, m3, m4, m5⟩ := outs_math hp
      rw [hp] at HI HS
      clear hp m1
      generalize outL lP nS = L at *
      have H4 := Lib.hid m4; have H5 := Lib.hid m5; clear m4 m5
      go_wp2_with fail
      refine (HI.out _ c_P).mono ?_
      rintro e w6 ⟨⟨roO, rcO, rfl, ow⟩, hb⟩
      replace c_P := c_P.below hb
      replace hB := below_step hB hB.size hb
      clear hb
      have c_O := owns_cells ow
      clear ow
      go_wp2_with fail
      refine (HS.out _ c_P).mono ?_
      rintro e w7 ⟨⟨roW, rcW, rfl, ow⟩, hb⟩
      replace c_P := c_P.below hb
      replace c_O := c_O.below hb
      replace hB := below_step hB hB.size hb
      clear hb
      have c_W := owns_cells ow
      clear ow
      go_wp2_with fail
      refine (sameInts_any _ _ _ _ _ _ L L _ rfl rfl (by unfold maxLen; omega) c_O c_W).mono ?_
      rw [eqI_self]
      rintro e w8 ⟨rfl, hq⟩
      have hb := quiet_below hq
      clear hq
      replace c_P := c_P.below hb
      replace c_O := c_O.below hb
      replace c_W := c_W.below hb
      replace hB := below_step hB hB.size hb
      clear hb
      have CP := Lib.hid c_P; have CO := Lib.hid c_O; have HB9 := Lib.hid hB
      clear c_P c_O c_W hB HI HS
      go_wp2
      go_loopw [9] (fun vi wr => ∃ i : Nat, 1 ≤ i ∧ i ≤ L.length ∧ vi = .int .i64 i ∧ Below w8.heap.size w8 wr) (fun vi _ => L.length - (intOf vi).toNat)
      case atStart => exact ⟨1, Nat.le_refl _, by omega, rfl, Below.refl _ _⟩
      case round =>
        obtain ⟨i, hi1, hi, rfl, hq⟩ := hrel
        by_cases hlt : i < L.length
        · have hlt' : decide ((i : Int) < (L.length : Int)) = true := by rw [decide_eq_true_eq]; omega
          obtain ⟨j, rfl⟩ : ∃ j, i = j + 1 := ⟨i - 1, by omega⟩
          have hn := H4.out j hlt
          have hij : ((j + 1 : Nat) : Int) - 1 = (j : Int) := by omega
          have hj : (j : Int) < (L.length : Int) := by omega
          have hj2 : j < L.length := by omega
          have hi2 : ((j + 1 : Nat) : Int) < (L.length : Int) := by omega
          obtain ⟨bo, oo, rfl, k1⟩ := (CO.out.below hq).int j hj2
          obtain ⟨bo2, oo2, he, k2⟩ := (CO.out.below hq).int (j + 1) hlt
          simp only [Option.some.injEq, Addr.mk.injEq, and_true] at he
          obtain ⟨rfl, rfl⟩ := he
          have HCN := Lib.hid (fun (d : Nat) (os : Array Obj) => Calls.regrown_of (HN.out (L.getD j 0) (L.getD (j + 1) 0) (Sort.grow (redrawn wr d) os) ((CP.out.below hq).below (below_regrown wr d os))))
          rw [hn] at HCN
          clear hn
          generalize L.getD j 0 = x at *
          generalize L.getD (j + 1) 0 = y at *
          generalize hjj : j + 1 = jj at *
          have HJJ := Lib.hid hjj; clear hjj
          have q1 : ∀ r : Regrown, (Sort.grow (redrawn wr r.d) r.os).cell? _ = some _ := fun r => cell_regrown k1 r.d r.os
          have q2 : ∀ r : Regrown, (Sort.grow (redrawn wr r.d) r.os).cell? _ = some _ := fun r => cell_regrown k2 r.d r.os
          clear k1 k2
          go_wp2
          refine wp_region_quiet_below (by kernel_rfl) (by kernel_rfl) ?_
          repeat (first | go_big_quiet_step (with_reducible first | exact HCN.out _ _) | quiet_step (with_reducible first | exact HCN.out _ _))
          refine wpQuiet_nil ?_
          rintro _ ⟨r, rfl⟩
          have hb7 := below_regrown wr r.d r.os
          generalize Sort.grow (redrawn wr r.d) r.os = W7 at *
          have hq7 := below_step hq hq.size hb7
          go_wp2
          go_roundw
          case rel => exact ⟨jj + 1, by omega, by omega, by go_num, hq7⟩
          case measure => simp [intOf]; omega
        · obtain rfl : i = L.length := by omega
          have hlt' : decide ((L.length : Int) < (L.length : Int)) = false := by rw [decide_eq_false_iff_not]; omega
          have hB := below_step HB9.out HB9.out.size hq
          obtain ⟨ba, oa, rfl, ka⟩ := (CO.out.below hq).int 0 (by omega)
          rw [Nat.add_zero] at ka
          have hl0 : (0 : Int) < (L.length : Int) := by omega
          have d1 : decide ((1 : Int) ≤ (L.length : Int)) = true := by rw [decide_eq_true_eq]; omega
          have d2 : (1 : Int) ≤ (L.length : Int) := by omega
          by_cases h0 : nS = 0
          · subst h0
            rw [H5.out (.inl rfl)] at ka
            go_wp2
            go_ret
            exact ⟨rfl, hB⟩
          · by_cases h3 : nS = 3
            · subst h3
              rw [H5.out (.inr rfl)] at ka
              go_wp2
              go_ret
              exact ⟨rfl, hB⟩
            · have n0 : (nS != 0) = true := by rw [bne_iff_ne]; exact h0
              have n3 : (nS != 3) = true := by rw [bne_iff_ne]; exact h3
              go_wp2
              go_ret
              exact ⟨rfl, hB⟩
  · have hdC : decide (1048576 < (lC.length : Int)) = true := by rw [decide_eq_true_eq]; omega
    go_enter Try.func4, Try.ntmps4
    go_wp2
    go_ret
    exact ⟨rfl, Below.refl _ _⟩

set_option maxRecDepth 100000 in
theorem fnNearOut_lifted (os : Os) (started : os.Started) (H : Type) (enc : TypeId × Value → H) :
    ReturnsInHanded {} Try.checked os 4 .any (Rows.fnNearOutSpec.pre6 enc Try.prog Try.f4 Rows.fnNearOutRow.domain false) (Rows.fnNearOutSpec.post enc Try.prog Try.f4 false true false false) := by
  refine returnsInHanded_of_change (C := Try.checked) Try.own started (by kernel_rfl) Try.func4
    (ChangeSpec.witness6 (enc := enc) (C := Try.checked) false ⟨#[], #[.slice none 0 0], []⟩ 8 (by kernel_rfl) (by kernel_rfl) (by kernel_rfl) (by kernel_rfl)) ?_
  intro W base args ds gs before hval0 hW _ _
  have hval : ∀ (j : Nat) t v, Try.f4.params[j]? = some t → args[j]? = some v → Value.okWide Try.prog W .any base t v := hval0
  have hW' := hW
  obtain ⟨p, q, hA0, hV, rfl, _, _⟩ := hW
  have hA : DataW.TrodAll enc Try.prog W 0 (fun _ => true) true Try.f4.params.toList args.toList ds p := hA0
  rw [Try.params4] at hA hval
  obtain ⟨v0, d0, rfl, rfl, h0⟩ := trodAll_one hA
  obtain ⟨rfl, rfl⟩ := trodVars_none hV
  obtain ⟨aC, eC, kC, rfl⟩ := okWide_slice Try.underlying22 (hval 0 22 v0 rfl rfl)
  clear hA0 hval0
  simp only [List.append_nil] at hW'
  have hlt0 : ∀ x ∈ p, x.block < W.heap.size := fun x hx => by simpa using hW'.lt x (by simp [hx])
  obtain ⟨lC, rfl, mC, zC, cC⟩ := open_bytes h0
  refine (fnNearOut_all aC kC lC W mC zC cC).mono fun e W' ⟨he, hb⟩ => ?_
  subst he
  refine ⟨_, rfl, _, _, _, [], _, [], hW', trodAll_mk1 (shut_bool Try.underlying4 _), trodAll_mk1 (Below.trod Try.laidOut (by kernel_rfl) (of_decide_eq_true (by kernel_rfl)) h0 hb hlt0), rfl, hb.frame _, fun h => by cases h⟩

theorem fnNearOut_holds : Rows.FnNearOutSaid :=
  OpenClaim.holds_of_wide 4 Try.f4 rfl rfl rfl rfl rfl rfl rfl ⟨rfl, rfl, rfl, rfl, rfl⟩ rfl rfl rfl rfl rfl (by kernel_rfl) Try.func4 (by kernel_rfl)
    (of_decide_eq_true (by kernel_rfl)) (by unfold Func.isWrapper; first | (rw [if_pos (by decide +kernel)]; kernel_rfl) | (rw [if_neg (by decide +kernel)]; exact ⟨rfl, rfl⟩))
    (fun os started H enc _ => fnNearOut_lifted os started H enc)

end Go.Proofs.Ytjdlapcikpmdgaa
