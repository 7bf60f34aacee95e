
/-
  For every slice of bytes the law FnSides returns true, and the slice reads behind the call as it read before. No condition.
-/
import Derived.Test.YtjcbfijliacicaaNearQ
import Derived.Test.YtjcbfijliacicaaDrawP
import Derived.Test.YtjcbfijliacicaaSideS
import Derived.Test.YtjcbfijliacicaaDraw
import Derived.Test.YtjcbfijliacicaaLaws
namespace Go.Proofs.Ytjcbfijliacicaa
open Go.ChangeShapes Go.WideShapes Go.ChangeAt Go.RowKit

set_option maxRecDepth 100000 in
set_option maxHeartbeats 4000000 in
theorem fnSides_all (aC : Option Addr) (kC : Nat) (lC : List UInt8) (w : World) (mC : lC.length ≤ maxLen) (zC : lC.length ≤ kC) (cC : CellsAt w aC (lC.map byteV)) :
    Calls Try.prog 4 #[.slice aC lC.length kC] w fun e w' => e = .returned (.bool true) ∧ Below w.heap.size w w' := by
  have mC2 := mC
  clear mC2
  by_cases dC : lC.length ≤ 1048576
  · have hdC : decide (1048576 < (lC.length : Int)) = false := by rw [decide_eq_false_iff_not]; omega
    go_enter Try.func4, Try.ntmps4
    go_wp2_with fail
    refine (drawWallSides_any _ _ _ _ zC dC cC).mono ?_
    rintro e w1 ⟨⟨roP, rcP, lP, nA, hsm, rfl, c_P⟩, hb⟩
    have hB := hb
    clear hb
    have LP : lP.length ≤ 1048576 := by have := hsm.2.1; omega
    have SP : ∀ s ∈ lP, s.size ≤ 1048576 := fun s h => by have := hsm.2.2 s h; omega
    cases hd : wallIn lP nA
    · -- no wall
      have HI := Lib.hid (fun w c => implWallSides_any roP rcP lP nA w LP SP c)
      have HS := Lib.hid (fun w c => specWallSides_any roP rcP lP nA w LP SP c)
      rw [hd, show sideOrA lP nA = [] by unfold sideOrA; rw [hd]; rfl, show sideOrB lP nA = [] by unfold sideOrB; rw [hd]; rfl] at HI HS
      go_wp2_with fail
      refine (HI.out _ c_P).mono ?_
      rintro e w2 ⟨⟨roA, rcA, roB, rcB, rfl, ow, ow2, _⟩, hb⟩
      replace c_P := c_P.below hb
      replace hB := below_step hB hB.size hb
      clear hb
      have c_A := owns_cells ow
      have c_B := owns_cells ow2
      clear ow ow2
      go_wp2_with fail
      refine (HS.out _ c_P).mono ?_
      rintro e w3 ⟨⟨roC, rcC, roD, rcD, rfl, ow, ow2, _⟩, hb⟩
      replace c_P := c_P.below hb
      replace c_A := c_A.below hb
      replace c_B := c_B.below hb
      replace hB := below_step hB hB.size hb
      clear hb
      have c_C := owns_cells ow
      have c_D := owns_cells ow2
      clear ow ow2
      go_wp2_with fail
      refine (sameInts_any _ _ _ _ _ _ [] [] _ rfl rfl (Nat.zero_le _) c_A c_C).mono ?_
      rw [eqI_self]
      rintro e w4 ⟨rfl, hq⟩
      have hb := quiet_below hq
      clear hq
      replace c_P := c_P.below hb
      replace c_A := c_A.below hb
      replace c_B := c_B.below hb
      replace c_C := c_C.below hb
      replace c_D := c_D.below hb
      replace hB := below_step hB hB.size hb
      clear hb
      go_wp2_with fail
      refine (sameInts_any _ _ _ _ _ _ [] [] _ rfl rfl (Nat.zero_le _) c_B c_D).mono ?_
      rw [eqI_self]
      rintro e w5 ⟨rfl, hq⟩
      have hb := quiet_below hq
      clear hq
      replace c_P := c_P.below hb
      replace c_A := c_A.below hb
      replace c_B := c_B.below hb
      replace c_C := c_C.below hb
      replace c_D := c_D.below hb
      replace hB := below_step hB hB.size hb
      clear hb
      go_wp2_with fail
      refine (sameInts_any _ _ _ _ _ _ [] [] _ rfl rfl (Nat.zero_le _) c_A c_C).mono ?_
      rw [eqI_self]
      rintro e w6 ⟨rfl, hq⟩
      have hb := quiet_below hq
      clear hq
      replace c_P := c_P.below hb
      replace c_A := c_A.below hb
      replace c_B := c_B.below hb
      replace c_C := c_C.below hb
      replace c_D := c_D.below hb
      replace hB := below_step hB hB.size hb
      clear hb
      go_wp2_with fail
      refine (sameInts_any _ _ _ _ _ _ [] [] _ rfl rfl (Nat.zero_le _) c_B c_D).mono ?_
      rw [eqI_self]
      rintro e w7 ⟨rfl, hq⟩
      have hb := quiet_below hq
      clear hq
      replace c_P := c_P.below hb
      replace c_A := c_A.below hb
      replace c_B := c_B.below hb
      replace c_C := c_C.below hb
      replace c_D := c_D.below hb
      replace hB := below_step hB hB.size hb
      clear hb
      go_wp2
      go_ret
      exact ⟨rfl, hB⟩
    · -- a wall
      obtain ⟨hp, la, lb, la6, lb6, hnear, hoth, hcons⟩ := sides_math hd
      have HI := Lib.hid (fun w c => implWallSides_any roP rcP lP nA w LP SP c)
      have HS := Lib.hid (fun w c => specWallSides_any roP rcP lP nA w LP SP c)
      have HN := Lib.hid (fun (a b : Int) w c => implNearIs_any roP rcP lP a b w LP SP c)
      rw [hd] at HI HS
      clear hp hd
      generalize sideOrA lP nA = A at *
      generalize sideOrB lP nA = B at *
      have HO := Lib.hid hoth
      have HK := Lib.hid hcons
      have HF := Lib.hid hnear
      clear hoth hcons hnear
      go_wp2_with fail
      refine (HI.out _ c_P).mono ?_
      rintro e w8 ⟨⟨roA, rcA, roB, rcB, rfl, ow, ow2, _⟩, hb⟩
      replace c_P := c_P.below hb
      replace hB := below_step hB hB.size hb
      clear hb
      have c_A := owns_cells ow
      have c_B := owns_cells ow2
      clear ow ow2
      go_wp2_with fail
      refine (HS.out _ c_P).mono ?_
      rintro e w9 ⟨⟨roC, rcC, roD, rcD, rfl, ow, ow2, _⟩, hb⟩
      replace c_P := c_P.below hb
      replace c_A := c_A.below hb
      replace c_B := c_B.below hb
      replace hB := below_step hB hB.size hb
      clear hb
      have c_C := owns_cells ow
      have c_D := owns_cells ow2
      clear ow ow2
      go_wp2_with fail
      refine (sameInts_any _ _ _ _ _ _ A A _ rfl rfl (by unfold maxLen; omega) c_A c_C).mono ?_
      rw [eqI_self]
      rintro e w10 ⟨rfl, hq⟩
      have hb := quiet_below hq
      clear hq
      replace c_P := c_P.below hb
      replace c_A := c_A.below hb
      replace c_B := c_B.below hb
      replace c_C := c_C.below hb
      replace c_D := c_D.below hb
      replace hB := below_step hB hB.size hb
      clear hb
      go_wp2_with fail
      refine (sameInts_any _ _ _ _ _ _ B B _ rfl rfl (by unfold maxLen; omega) c_B c_D).mono ?_
      rw [eqI_self]
      rintro e w11 ⟨rfl, hq⟩
      have hb := quiet_below hq
      clear hq
      replace c_P := c_P.below hb
      replace c_A := c_A.below hb
      replace c_B := c_B.below hb
      replace c_C := c_C.below hb
      replace c_D := c_D.below hb
      replace hB := below_step hB hB.size hb
      clear hb
      have CP := Lib.hid c_P; have CA := Lib.hid c_A; have CB := Lib.hid c_B; have HB9 := Lib.hid hB
      clear c_P c_A c_B c_C c_D hB
      obtain ⟨WK, hWK⟩ : ∃ WK, WK = w11 := ⟨_, rfl⟩
      clear hWK WK
      go_wp2
      go_loopw [11] (fun vi wr => ∃ i : Nat, i ≤ A.length ∧ vi = .int .i64 i ∧ Below w11.heap.size w11 wr) (fun vi _ => A.length - (intOf vi).toNat)
      case atStart => exact ⟨0, Nat.zero_le _, rfl, Below.refl _ _⟩
      case round =>
        obtain ⟨i, hi, rfl, hq⟩ := hrel
        by_cases hlt : i < A.length
        · have hlt' : decide ((i : Int) < (A.length : Int)) = true := by rw [decide_eq_true_eq]; omega
          have HOI := Lib.hid (fun k hk => HO.out i k hlt hk)
          go_wp2
          go_loopw [12] (fun vk wm => ∃ k : Nat, k ≤ B.length ∧ vk = .int .i64 k ∧ Below w11.heap.size w11 wm) (fun vk _ => B.length - (intOf vk).toNat)
          case atStart => exact ⟨0, Nat.zero_le _, rfl, hq⟩
          case round =>
            obtain ⟨k, hk, rfl, hq2⟩ := hrel
            obtain ⟨wm, rfl⟩ : ∃ wm, wm = wr := ⟨_, rfl⟩
            obtain ⟨b, off, he, hck⟩ := (CA.out.below hq2).int i hlt
            by_cases hkl : k < B.length
            · have hkl' : decide ((k : Int) < (B.length : Int)) = true := by rw [decide_eq_true_eq]; omega
              obtain ⟨b2, off2, he2, hck2⟩ := (CB.out.below hq2).int k hkl
              have hne := HOI.out k hkl
              subst he; subst he2
              generalize A.getD i 0 = X at *
              generalize B.getD k 0 = Y at *
              go_wp2
              go_quiet (fail)
              go_wp2
              go_roundw
              case rel => exact ⟨k + 1, by omega, by go_num, hq2.trans (below_drewN _ _ _)⟩
              case measure => simp [intOf]; omega
            · obtain rfl : k = B.length := by omega
              have hkl' : decide ((B.length : Int) < (B.length : Int)) = false := by rw [decide_eq_false_iff_not]; omega
              subst he
              by_cases hi0 : 0 < i
              · have hi0' : decide ((0 : Int) < (i : Int)) = true := by rw [decide_eq_true_eq]; omega
                obtain ⟨j, hj⟩ : ∃ j, i = j + 1 := ⟨i - 1, by omega⟩
                have hi1 : (i : Int) - 1 = (j : Int) := by omega
                have hjl : j < A.length := by omega
                have hjl2 : (j : Int) < (A.length : Int) := by omega
                have hj0 : (0 : Int) ≤ (j : Int) := by omega
                obtain ⟨b2, off2, he, hck2⟩ := (CA.out.below hq2).int j hjl
                simp only [Option.some.injEq, Addr.mk.injEq, and_true] at he
                obtain ⟨rfl, rfl⟩ := he
                have hmi := HK.out j (by omega)
                rw [← hj] at hmi
                have HCL := Lib.hid (fun (d : Nat) (os : Array Obj) => Calls.regrown_of (HN.out (A.getD j 0) (A.getD i 0) (Sort.grow (redrawn wm d) os) ((CP.out.below hq2).below (below_regrown wm d os))))
                rw [hmi] at HCL
                clear hmi
                clear HOI
                generalize A.getD j 0 = Y at *
                generalize hX : A.getD i 0 = X at *
                clear hX
                have HJ := Lib.hid hj; clear hj
                have q1 : ∀ r : Regrown, (Sort.grow (redrawn wm r.d) r.os).cell? _ = some (.int .i64 X) := fun r => cell_regrown hck r.d r.os
                have q2 : ∀ r : Regrown, (Sort.grow (redrawn wm r.d) r.os).cell? _ = some (.int .i64 Y) := fun r => cell_regrown hck2 r.d r.os
                go_wp2
                refine wp_region_quiet_below (by kernel_rfl) (by kernel_rfl) ?_
                repeat (first | go_big_quiet_step (with_reducible exact HCL.out _ _) | quiet_step (with_reducible exact HCL.out _ _))
                refine wpQuiet_nil ?_
                rintro _ ⟨r, rfl⟩
                have hb7 := below_regrown wm r.d r.os
                generalize Sort.grow (redrawn wm r.d) r.os = W7 at *
                have hq7 := below_step hq2 hq2.size hb7
                go_wp2
                go_roundw
                case rel => exact ⟨i + 1, by omega, by go_num, hq7⟩
                case measure => simp [intOf]; omega
              · obtain rfl : i = 0 := by omega
                go_wp2
                refine wp_region_quiet_below (by kernel_rfl) (by kernel_rfl) ?_
                repeat (first | go_big_quiet_step (fail) | quiet_step (fail))
                refine wpQuiet_nil ?_
                rintro _ ⟨r, rfl⟩
                have hb7 := below_regrown wm r.d r.os
                generalize Sort.grow (redrawn wm r.d) r.os = W7 at *
                have hq7 := below_step hq2 hq2.size hb7
                go_wp2
                go_roundw
                case rel => exact ⟨1, by omega, by go_num, hq7⟩
                case measure => simp [intOf]; omega
        · obtain rfl : i = A.length := by omega
          have hlt' : decide ((A.length : Int) < (A.length : Int)) = false := by rw [decide_eq_false_iff_not]; omega
          have dA : decide ((0 : Int) < (A.length : Int)) = true := by rw [decide_eq_true_eq]; omega
          have dB : decide ((0 : Int) < (B.length : Int)) = true := by rw [decide_eq_true_eq]; omega
          have la2 : (0 : Int) < (A.length : Int) := by omega
          have lb2 : (0 : Int) < (B.length : Int) := by omega
          obtain ⟨b, off, rfl, hck⟩ := (CA.out.below hq).int 0 la
          obtain ⟨b2, off2, rfl, hck2⟩ := (CB.out.below hq).int 0 lb
          have hmi := HF.out
          have HCL := Lib.hid (fun (d : Nat) (os : Array Obj) => Calls.regrown_of (HN.out (A.getD 0 0) (B.getD 0 0) (Sort.grow (redrawn wr d) os) ((CP.out.below hq).below (below_regrown wr d os))))
          rw [hmi] at HCL
          clear hmi
          generalize A.getD 0 0 = X at *
          generalize B.getD 0 0 = Y at *
          rw [Nat.add_zero] at hck hck2
          have q1 : ∀ r : Regrown, (Sort.grow (redrawn wr r.d) r.os).cell? _ = some (.int .i64 X) := fun r => cell_regrown hck r.d r.os
          have q2 : ∀ r : Regrown, (Sort.grow (redrawn wr r.d) r.os).cell? _ = some (.int .i64 Y) := fun r => cell_regrown hck2 r.d r.os
          go_wp2
          refine wp_region_quiet_below (by kernel_rfl) (by kernel_rfl) ?_
          repeat (first | go_big_quiet_step (with_reducible exact HCL.out _ _) | quiet_step (with_reducible exact HCL.out _ _))
          refine wpQuiet_nil ?_
          rintro _ ⟨r, rfl⟩
          have hb7 := below_regrown wr r.d r.os
          generalize Sort.grow (redrawn wr r.d) r.os = W7 at *
          have hq7 := below_step hq hq.size hb7
          go_wp2
          go_ret
          exact ⟨rfl, below_step HB9.out HB9.out.size hq7⟩
  · have hdC : decide (1048576 < (lC.length : Int)) = true := by rw [decide_eq_true_eq]; omega
    go_enter Try.func4, Try.ntmps4
    go_wp2
    go_ret
    exact ⟨rfl, Below.refl _ _⟩

set_option maxRecDepth 100000 in
theorem fnSides_lifted (os : Os) (started : os.Started) (H : Type) (enc : TypeId × Value → H) :
    ReturnsInHanded {} Try.checked os 4 .any (Rows.fnSidesSpec.pre6 enc Try.prog Try.f4 Rows.fnSidesRow.domain false) (Rows.fnSidesSpec.post enc Try.prog Try.f4 false true false false) := by
  refine returnsInHanded_of_change (C := Try.checked) Try.own started (by kernel_rfl) Try.func4
    (ChangeSpec.witness6 (enc := enc) (C := Try.checked) false ⟨#[], #[.slice none 0 0], []⟩ 8 (by kernel_rfl) (by kernel_rfl) (by kernel_rfl) (by kernel_rfl)) ?_
  intro W base args ds gs before hval0 hW _ _
  have hval : ∀ (j : Nat) t v, Try.f4.params[j]? = some t → args[j]? = some v → Value.okWide Try.prog W .any base t v := hval0
  have hW' := hW
  obtain ⟨p, q, hA0, hV, rfl, _, _⟩ := hW
  have hA : DataW.TrodAll enc Try.prog W 0 (fun _ => true) true Try.f4.params.toList args.toList ds p := hA0
  rw [Try.params4] at hA hval
  obtain ⟨v0, d0, rfl, rfl, h0⟩ := trodAll_one hA
  obtain ⟨rfl, rfl⟩ := trodVars_none hV
  obtain ⟨aC, eC, kC, rfl⟩ := okWide_slice Try.underlying22 (hval 0 22 v0 rfl rfl)
  clear hA0 hval0
  simp only [List.append_nil] at hW'
  have hlt0 : ∀ x ∈ p, x.block < W.heap.size := fun x hx => by simpa using hW'.lt x (by simp [hx])
  obtain ⟨lC, rfl, mC, zC, cC⟩ := open_bytes h0
  refine (fnSides_all aC kC lC W mC zC cC).mono fun e W' ⟨he, hb⟩ => ?_
  subst he
  refine ⟨_, rfl, _, _, _, [], _, [], hW', trodAll_mk1 (shut_bool Try.underlying4 _), trodAll_mk1 (Below.trod Try.laidOut (by kernel_rfl) (of_decide_eq_true (by kernel_rfl)) h0 hb hlt0), rfl, hb.frame _, fun h => by cases h⟩

theorem fnSides_holds : Rows.FnSidesSaid :=
  OpenClaim.holds_of_wide 4 Try.f4 rfl rfl rfl rfl rfl rfl rfl ⟨rfl, rfl, rfl, rfl, rfl⟩ rfl rfl rfl rfl rfl (by kernel_rfl) Try.func4 (by kernel_rfl)
    (of_decide_eq_true (by kernel_rfl)) (by unfold Func.isWrapper; first | (rw [if_pos (by decide +kernel)]; kernel_rfl) | (rw [if_neg (by decide +kernel)]; exact ⟨rfl, rfl⟩))
    (fun os started H enc _ => fnSides_lifted os started H enc)

end Go.Proofs.Ytjcbfijliacicaa
