
/-
  For every slice of bytes the law FnPlaces returns true, and the slice reads behind the call as it read before. No condition.
-/
import Derived.Test.YtobkbgbkkiiloaaGreatSizF
import Derived.Test.YtobkbgbkkiiloaaGreatDrawQ
import Derived.Test.YtobkbgbkkiiloaaGreatDraw
import Derived.Test.YtobkbgbkkiiloaaGreatLaws
namespace Go.Proofs.YtobkbgbkkiiloaaGreat
open Go.ChangeShapes Go.WideShapes Go.ChangeAt Go.RowKit

set_option maxRecDepth 100000 in
set_option maxHeartbeats 4000000 in
theorem fnPlaces_all (aC : Option Addr) (kC : Nat) (lC : List UInt8) (w : World) (mC : lC.length ≤ maxLen) (zC : lC.length ≤ kC) (cC : CellsAt w aC (lC.map byteV)) :
    Calls Tryz.prog 5 #[.slice aC lC.length kC] w fun e w' => e = .returned (.bool true) ∧ Below w.heap.size w w' := by
  have mC2 := mC
  clear mC2
  by_cases dC : lC.length ≤ 1048576
  · have hdC : decide (1048576 < (lC.length : Int)) = false := by rw [decide_eq_false_iff_not]; omega
    go_enter Tryz.func5, Tryz.ntmps5
    go_wp2_with fail
    refine (drawSizePlaces_any _ _ _ _ zC dC cC).mono ?_
    rintro e w1 ⟨⟨roP, rcP, lP, roN, rcN, lN, hsm, hln, rfl, c_P, c_N⟩, hb⟩
    have hB := hb
    clear hb
    have LP : lP.length ≤ 1048576 := by have := hsm.2.1; omega
    have SP : ∀ s ∈ lP, s.size ≤ 1048576 := fun s h => by have := hsm.2.2 s h; omega
    have LN : lN.length ≤ 1048576 := by omega
    cases hp : sizedB lP lN
    · -- no needs
      have HI := Lib.hid (fun w c d => implSizePlaces_any roP roN rcP rcN lP lN w LP SP LN c d)
      have HS := Lib.hid (fun w c d => specSizePlaces_any roP roN rcP rcN lP lN w LP SP LN c d)
      rw [hp, show placesV lP lN 0 = [] by unfold placesV; rw [hp]; rfl, show intsL [] = [] from rfl] at HI HS
      clear hp
      go_wp2_with fail
      refine (HI.out _ c_P c_N).mono ?_
      rintro e w2 ⟨⟨roO, rcO, rfl, ow⟩, hb⟩
      replace c_P := c_P.below hb
      replace c_N := c_N.below hb
      replace hB := below_step hB hB.size hb
      clear hb
      have c_O := owns_cells ow
      clear ow
      go_wp2_with fail
      refine (HS.out _ c_P c_N).mono ?_
      rintro e w3 ⟨⟨roW, rcW, rfl, ow⟩, hb⟩
      replace c_P := c_P.below hb
      replace c_N := c_N.below hb
      replace c_O := c_O.below hb
      replace hB := below_step hB hB.size hb
      clear hb
      have c_W := owns_cells ow
      clear ow
      go_wp2_with fail
      refine (sameInts_any _ _ _ _ _ _ [] [] _ rfl rfl (by exact Nat.zero_le _) c_O c_W).mono ?_
      rw [eqI_self]
      rintro e w4 ⟨rfl, hq⟩
      have hb := quiet_below hq
      clear hq
      replace c_P := c_P.below hb
      replace c_N := c_N.below hb
      replace c_O := c_O.below hb
      replace c_W := c_W.below hb
      replace hB := below_step hB hB.size hb
      clear hb
      go_wp2_with fail
      refine (sameInts_any _ _ _ _ _ _ [] [] _ rfl rfl (by exact Nat.zero_le _) c_O c_W).mono ?_
      rw [eqI_self]
      rintro e w5 ⟨rfl, hq⟩
      have hb := quiet_below hq
      clear hq
      replace c_P := c_P.below hb
      replace c_N := c_N.below hb
      replace c_O := c_O.below hb
      replace c_W := c_W.below hb
      replace hB := below_step hB hB.size hb
      clear hb
      go_wp2
      go_ret
      exact ⟨rfl, hB⟩
    · -- needs
      have HI := Lib.hid (fun w c d => implSizePlaces_any roP roN rcP rcN lP lN w LP SP LN c d)
      have HS := Lib.hid (fun w c d => specSizePlaces_any roP roN rcP rcN lP lN w LP SP LN c d)
      have HW := Lib.hid (fun w c d => implSizeWide_any roP roN rcP rcN lP lN w LP SP LN c d)
      have HL := Lib.hid (fun (x y : Int) w c => implOrderLeft_any roP rcP lP x y w LP SP c)
      obtain ⟨p1, p2, p3, p4, p5, p6⟩ := places_math hp
      obtain ⟨k1, k2, k3⟩ := sizedB_yes hp
      have hv := wideV_le lP lN (way := 0) (by omega)
      rw [hp] at HI HS HW
      have HNN := Lib.hid (fun a (ha : a < lN.length) => needB_at k3 ha)
      obtain ⟨O, hO⟩ : ∃ O, O = placesV lP lN 0 := ⟨_, rfl⟩
      rw [← hO] at p1 p4 p5 p6 HI HS
      have HP5 := Lib.hid p5; have HP6 := Lib.hid p6; have HP4 := Lib.hid p4; have HP1 := Lib.hid p1; clear p1 p4 p5 p6 hO k1 k2 k3 hp
      generalize wideV lP lN 0 = v at *
      obtain ⟨L, hL⟩ : ∃ L, L = intsL O := ⟨_, rfl⟩
      rw [← hL] at HI HS
      have HLL := Lib.hid (show L.length = lN.length by rw [hL, intsL_len]; exact HP1.out)
      have HLA := Lib.hid (show ∀ i, i < lN.length → L.getD i 0 = ((O.getD i 0 : Nat) : Int) from fun i hi => by rw [hL]; exact ints_at O (by have := HP1.out; omega))
      clear hL
      go_wp2_with fail
      refine (HI.out _ c_P c_N).mono ?_
      rintro e w6 ⟨⟨roO, rcO, rfl, ow⟩, hb⟩
      replace c_P := c_P.below hb
      replace c_N := c_N.below hb
      replace hB := below_step hB hB.size hb
      clear hb
      have c_O := owns_cells ow
      clear ow
      go_wp2_with fail
      refine (HS.out _ c_P c_N).mono ?_
      rintro e w7 ⟨⟨roW, rcW, rfl, ow⟩, hb⟩
      replace c_P := c_P.below hb
      replace c_N := c_N.below hb
      replace c_O := c_O.below hb
      replace hB := below_step hB hB.size hb
      clear hb
      have c_W := owns_cells ow
      clear ow
      go_wp2_with fail
      refine (sameInts_any _ _ _ _ _ _ L L _ rfl rfl (by have := HLL.out; unfold maxLen; omega) c_O c_W).mono ?_
      rw [eqI_self]
      rintro e w8 ⟨rfl, hq⟩
      have hb := quiet_below hq
      clear hq
      replace c_P := c_P.below hb
      replace c_N := c_N.below hb
      replace c_O := c_O.below hb
      replace c_W := c_W.below hb
      replace hB := below_step hB hB.size hb
      clear hb
      go_wp2_with fail
      refine (HW.out _ c_P c_N).mono ?_
      rintro e w9 ⟨rfl, hb⟩
      replace c_P := c_P.below hb
      replace c_N := c_N.below hb
      replace c_O := c_O.below hb
      replace c_W := c_W.below hb
      replace hB := below_step hB hB.size hb
      clear hb
      have CP := Lib.hid c_P; have CN := Lib.hid c_N; have CO := Lib.hid c_O; have HB9 := Lib.hid hB
      clear c_P c_N c_O c_W hB
      go_wp2
      go_loopw [11] (fun vi wr => ∃ i : Nat, i ≤ lN.length ∧ vi = .int .i64 i ∧ Below w9.heap.size w9 wr) (fun vi _ => lN.length - (intOf vi).toNat)
      case atStart => exact ⟨0, Nat.zero_le _, rfl, Below.refl _ _⟩
      case round =>
        obtain ⟨i, hi, rfl, hq⟩ := hrel
        by_cases hlt : i < lN.length
        · have hlt' : decide ((i : Int) < (L.length : Int)) = true := by rw [decide_eq_true_eq]; have := HLL.out; omega
          have hi2 : (i : Int) < (L.length : Int) := by have := HLL.out; omega
          have hi3 : (i : Int) < (lN.length : Int) := by omega
          obtain ⟨n1, n2, n3⟩ := HNN.out i hlt
          have h5 := HP5.out i hlt
          obtain ⟨bo, oo, rfl, ko⟩ := (CO.out.below hq).int i (by have := HLL.out; omega)
          obtain ⟨bn, on, rfl, kn⟩ := (CN.out.below hq).int i (by omega)
          rw [HLA.out i hlt] at ko
          rw [n1] at kn
          clear n1
          have KO := Lib.hid (HLA.out i hlt); have KN := Lib.hid (HNN.out i hlt).1
          have HX := Lib.hid (fun (y : Nat) (hy : y < lN.length) (hl : ledP lP 0 (i : Int) (y : Int) = true) => HP6.out i y hlt hy hl)
          obtain ⟨x, hx⟩ : ∃ x, x = O.getD i 0 := ⟨_, rfl⟩
          obtain ⟨d, hd⟩ : ∃ d, d = dN lN i := ⟨_, rfl⟩
          rw [← hx] at ko h5 HX KO
          rw [← hd] at kn h5 n2 n3 HX KN
          clear hx hd
          have hx81 : x ≤ 81 := by omega
          obtain ⟨e1, w1, e2, e3⟩ := places_facts h5 hv
          clear w1
          go_wp2
          go_quiet (fail)
          go_wp2
          go_loopw [12] (fun vi wz => ∃ y : Nat, y ≤ lN.length ∧ vi = .int .i64 y ∧ Below w9.heap.size w9 wz) (fun vi _ => lN.length - (intOf vi).toNat)
          case atStart => exact ⟨0, Nat.zero_le _, rfl, by first | exact hq | exact below_step hq hq.size (below_drewN _ _ _)⟩
          case round =>
            clear hq ko kn
            obtain ⟨y, hy, rfl, hq2⟩ := hrel
            by_cases hly : y < lN.length
            · have hly' : decide ((y : Int) < (L.length : Int)) = true := by rw [decide_eq_true_eq]; have := HLL.out; omega
              have hy2 : (y : Int) < (L.length : Int) := by have := HLL.out; omega
              have HCL := Lib.hid (fun (d : Nat) (os : Array Obj) => Calls.regrown_of (HL.out (i : Int) (y : Int) (Sort.grow (redrawn wr d) os) ((CP.out.below hq2).below (below_regrown wr d os))))
              rcases Bool.eq_false_or_eq_true (ledP lP 0 (i : Int) (y : Int)) with hl | hl
              · -- left
                rw [hl] at HCL
                have h6 := HX.out y hly hl
                obtain ⟨b1, o1, he1, k1⟩ := (CO.out.below hq2).int i (by have := HLL.out; omega)
                obtain ⟨b2, o2, he2, k2⟩ := (CO.out.below hq2).int y (by have := HLL.out; omega)
                obtain ⟨b3, o3, he3, k3⟩ := (CN.out.below hq2).int i (by omega)
                simp only [Option.some.injEq, Addr.mk.injEq, and_true] at he1 he2 he3
                obtain ⟨rfl, rfl⟩ := he1
                obtain ⟨rfl, rfl⟩ := he2
                obtain ⟨rfl, rfl⟩ := he3
                rw [KO.out] at k1
                rw [KN.out] at k3
                rw [HLA.out y hly] at k2
                generalize O.getD y 0 = z at *
                have e4 : decide ((z : Int) < (x : Int) + (d : Int)) = false := by rw [decide_eq_false_iff_not]; omega
                have e5 : ¬ z < x + d := by omega
                have q1 : ∀ r : Regrown, (Sort.grow (redrawn wr r.d) r.os).cell? _ = some _ := fun r => cell_regrown k1 r.d r.os
                have q2 : ∀ r : Regrown, (Sort.grow (redrawn wr r.d) r.os).cell? _ = some _ := fun r => cell_regrown k2 r.d r.os
                have q3 : ∀ r : Regrown, (Sort.grow (redrawn wr r.d) r.os).cell? _ = some _ := fun r => cell_regrown k3 r.d r.os
                clear k1 k2 k3
                go_wp2
                refine wp_region_quiet_below (by kernel_rfl) (by kernel_rfl) ?_
                repeat (first | go_big_quiet_step (with_reducible first | exact HCL.out _ _) | quiet_step (with_reducible first | exact HCL.out _ _))
                refine wpQuiet_nil ?_
                rintro _ ⟨r, rfl⟩
                have hb7 := below_regrown wr r.d r.os
                generalize Sort.grow (redrawn wr r.d) r.os = W7 at *
                have hq7 := below_step hq2 hq2.size hb7
                go_wp2
                go_roundw
                case rel => exact ⟨y + 1, by omega, by go_num, hq7⟩
                case measure => simp [intOf]; omega
              · -- not left
                rw [hl] at HCL
                go_wp2
                refine wp_region_quiet_below (by kernel_rfl) (by kernel_rfl) ?_
                repeat (first | go_big_quiet_step (with_reducible first | exact HCL.out _ _) | quiet_step (with_reducible first | exact HCL.out _ _))
                refine wpQuiet_nil ?_
                rintro _ ⟨r, rfl⟩
                have hb7 := below_regrown wr r.d r.os
                generalize Sort.grow (redrawn wr r.d) r.os = W7 at *
                have hq7 := below_step hq2 hq2.size hb7
                go_wp2
                go_roundw
                case rel => exact ⟨y + 1, by omega, by go_num, hq7⟩
                case measure => simp [intOf]; omega
            · obtain rfl : y = lN.length := by omega
              have hly' : decide ((lN.length : Int) < (L.length : Int)) = false := by rw [decide_eq_false_iff_not]; have := HLL.out; omega
              have hly2 : ¬ lN.length < L.length := by have := HLL.out; omega
              go_wp2
              go_roundw
              case rel => exact ⟨i + 1, by omega, by go_num, hq2⟩
              case measure => simp [intOf]; omega
        · obtain rfl : i = lN.length := by omega
          have hlt' : decide ((lN.length : Int) < (L.length : Int)) = false := by rw [decide_eq_false_iff_not]; have := HLL.out; omega
          have hlt2 : ¬ lN.length < L.length := by have := HLL.out; omega
          have hB := below_step HB9.out HB9.out.size hq
          obtain ⟨ba, oa, rfl, ka⟩ := (CO.out.below hq).int 0 (by have := HLL.out; omega)
          rw [HLA.out 0 (by omega), HP4.out, Nat.add_zero] at ka
          have hl0 : (0 : Int) < (L.length : Int) := by have := HLL.out; omega
          go_wp2
          go_ret
          exact ⟨rfl, hB⟩
  · have hdC : decide (1048576 < (lC.length : Int)) = true := by rw [decide_eq_true_eq]; omega
    go_enter Tryz.func5, Tryz.ntmps5
    go_wp2
    go_ret
    exact ⟨rfl, Below.refl _ _⟩

set_option maxRecDepth 100000 in
theorem fnPlaces_lifted (os : Os) (started : os.Started) (H : Type) (enc : TypeId × Value → H) :
    ReturnsInHanded {} Tryz.checked os 5 .any (Rows.fnPlacesSpec.pre6 enc Tryz.prog Tryz.f5 Rows.fnPlacesRow.domain false) (Rows.fnPlacesSpec.post enc Tryz.prog Tryz.f5 false true false false) := by
  refine returnsInHanded_of_change (C := Tryz.checked) Tryz.own started (by kernel_rfl) Tryz.func5
    (ChangeSpec.witness6 (enc := enc) (C := Tryz.checked) false ⟨#[], #[.slice none 0 0], []⟩ 8 (by kernel_rfl) (by kernel_rfl) (by kernel_rfl) (by kernel_rfl)) ?_
  intro W base args ds gs before hval0 hW _ _
  have hval : ∀ (j : Nat) t v, Tryz.f5.params[j]? = some t → args[j]? = some v → Value.okWide Tryz.prog W .any base t v := hval0
  have hW' := hW
  obtain ⟨p, q, hA0, hV, rfl, _, _⟩ := hW
  have hA : DataW.TrodAll enc Tryz.prog W 0 (fun _ => true) true Tryz.f5.params.toList args.toList ds p := hA0
  rw [Tryz.params5] at hA hval
  obtain ⟨v0, d0, rfl, rfl, h0⟩ := trodAll_one hA
  obtain ⟨rfl, rfl⟩ := trodVars_none hV
  obtain ⟨aC, eC, kC, rfl⟩ := okWide_slice Tryz.underlying22 (hval 0 22 v0 rfl rfl)
  clear hA0 hval0
  simp only [List.append_nil] at hW'
  have hlt0 : ∀ x ∈ p, x.block < W.heap.size := fun x hx => by simpa using hW'.lt x (by simp [hx])
  obtain ⟨lC, rfl, mC, zC, cC⟩ := open_bytes h0
  refine (fnPlaces_all aC kC lC W mC zC cC).mono fun e W' ⟨he, hb⟩ => ?_
  subst he
  refine ⟨_, rfl, _, _, _, [], _, [], hW', trodAll_mk1 (shut_bool Tryz.underlying4 _), trodAll_mk1 (Below.trod Tryz.laidOut (by kernel_rfl) (of_decide_eq_true (by kernel_rfl)) h0 hb hlt0), rfl, hb.frame _, fun h => by cases h⟩

theorem fnPlaces_holds : Rows.FnPlacesSaid :=
  OpenClaim.holds_of_wide 5 Tryz.f5 rfl rfl rfl rfl rfl rfl rfl ⟨rfl, rfl, rfl, rfl, rfl⟩ rfl rfl rfl rfl rfl (by kernel_rfl) Tryz.func5 (by kernel_rfl)
    (of_decide_eq_true (by kernel_rfl)) (by unfold Func.isWrapper; first | (rw [if_pos (by decide +kernel)]; kernel_rfl) | (rw [if_neg (by decide +kernel)]; exact ⟨rfl, rfl⟩))
    (fun os started H enc _ => fnPlaces_lifted os started H enc)

end Go.Proofs.YtobkbgbkkiiloaaGreat
