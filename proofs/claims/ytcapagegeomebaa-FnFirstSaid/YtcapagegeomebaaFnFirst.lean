
/-
  For every slice of bytes the law FnFirst returns true, and the slice reads behind the call as it read before. No condition.
-/
import Derived.Test.YtcapagegeomebaaOrdJ
import Derived.Test.YtcapagegeomebaaDrawO
import Derived.Test.YtcapagegeomebaaDraw
import Derived.Test.YtcapagegeomebaaLaws
namespace Go.Proofs.Ytcapagegeomebaa
open Go.ChangeShapes Go.WideShapes Go.ChangeAt Go.RowKit

set_option maxRecDepth 100000 in
set_option maxHeartbeats 4000000 in
theorem fnFirst_all (aC : Option Addr) (kC : Nat) (lC : List UInt8) (w : World) (mC : lC.length ≤ maxLen) (zC : lC.length ≤ kC) (cC : CellsAt w aC (lC.map byteV)) :
    Calls Try.prog 7 #[.slice aC lC.length kC] w fun e w' => e = .returned (.bool true) ∧ Below w.heap.size w w' := by
  have mC2 := mC
  clear mC2
  by_cases dC : lC.length ≤ 1048576
  · have hdC : decide (1048576 < (lC.length : Int)) = false := by rw [decide_eq_false_iff_not]; omega
    go_enter Try.func7, Try.ntmps7
    go_wp2_with fail
    refine (drawOrderFirst_any _ _ _ _ zC dC cC).mono ?_
    rintro e w1 ⟨⟨roP, rcP, lP, hsm, rfl, c_P⟩, hb⟩
    have hB := hb
    clear hb
    have LP : lP.length ≤ 1048576 := by have := hsm.2.1; omega
    have SP : ∀ s ∈ lP, s.size ≤ 1048576 := fun s h => by have := hsm.2.2 s h; omega
    cases hp : plainB lP
    · -- no plain plan
      have HI := Lib.hid (fun w c => implOrderFirst_any roP rcP lP w LP SP c)
      have HS := Lib.hid (fun w c => specOrderFirst_any roP rcP lP w LP SP c)
      rw [hp, firstL_no hp, show intsL [] = [] from rfl] at HI HS
      go_wp2_with fail
      refine (HI.out _ c_P).mono ?_
      rintro e w2 ⟨⟨roO, rcO, rfl, ow⟩, hb⟩
      replace c_P := c_P.below hb
      replace hB := below_step hB hB.size hb
      clear hb
      have c_O := owns_cells ow
      clear ow
      go_wp2_with fail
      refine (HS.out _ c_P).mono ?_
      rintro e w3 ⟨⟨roW, rcW, rfl, ow⟩, hb⟩
      replace c_P := c_P.below hb
      replace c_O := c_O.below hb
      replace hB := below_step hB hB.size hb
      clear hb
      have c_W := owns_cells ow
      clear ow
      go_wp2_with fail
      refine (sameInts_any _ _ _ _ _ _ [] [] _ rfl rfl (Nat.zero_le _) c_O c_W).mono ?_
      rw [eqI_self]
      rintro e w4 ⟨rfl, hq⟩
      have hb := quiet_below hq
      clear hq
      replace c_P := c_P.below hb
      replace c_O := c_O.below hb
      replace c_W := c_W.below hb
      replace hB := below_step hB hB.size hb
      clear hb
      go_wp2_with fail
      refine (sameInts_any _ _ _ _ _ _ [] [] _ rfl rfl (Nat.zero_le _) c_O c_W).mono ?_
      rw [eqI_self]
      rintro e w5 ⟨rfl, hq⟩
      have hb := quiet_below hq
      clear hq
      replace c_P := c_P.below hb
      replace c_O := c_O.below hb
      replace c_W := c_W.below hb
      replace hB := below_step hB hB.size hb
      clear hb
      go_wp2
      go_ret
      exact ⟨rfl, hB⟩
    · -- a plain plan
      have HI := Lib.hid (fun w c => implOrderFirst_any roP rcP lP w LP SP c)
      have HS := Lib.hid (fun w c => specOrderFirst_any roP rcP lP w LP SP c)
      have HR := Lib.hid (fun w c => implPlanRooms_any roP rcP lP w LP SP c)
      have HL := Lib.hid (fun (x y : Int) w c => implOrderLeft_any roP rcP lP x y w LP SP c)
      have HU := Lib.hid (fun (x y : Int) w c => implOrderAbove_any roP rcP lP x y w LP SP c)
      have hpl := plainB_plan hp
      have hP := planP_of hpl
      rw [hp] at HI HS
      rw [hpl, roomsOr_yes hpl, hP.rooms] at HR
      obtain ⟨f1, f2, f3, f4, f5, f6, f7⟩ := first_math hp
      obtain ⟨n1, hn1⟩ : ∃ n1, lP.length = n1 + 1 := ⟨lP.length - 1, by have := hP.grid.h1; omega⟩
      obtain ⟨m1, hm1⟩ : ∃ m1, wideB lP = m1 + 1 := ⟨wideB lP - 1, by have := hP.grid.w1; omega⟩
      have hlet := letter_room hpl (i := n1) (j := m1) (by omega) (by omega)
      have hev := hP.grid.even n1 (by omega)
      rw [hm1] at hev
      rw [show lP.length - 1 = n1 by omega, show wideB lP - 1 = m1 by omega] at f6
      obtain ⟨L, hL⟩ : ∃ L, L = intsL (firstL lP) := ⟨_, rfl⟩
      have HPE := Lib.hid (show L.Perm (intsL (List.range (gridR lP))) by rw [hL]; exact f4.map _)
      have hLl : L.length = gridR lP := by rw [hL, intsL_len, f1]
      have hL0 : L.getD 0 0 = 0 := by rw [hL, ints_at _ (by omega), f5]; rfl
      have hLz : L.getD (gridR lP - 1) 0 = ((gridG lP n1 m1 : Nat) : Int) := by rw [hL, ints_at _ (by omega), f6]
      have HC := Lib.hid (show ∀ i, 1 ≤ i → i < gridR lP → ledP lP 0 (L.getD (i - 1) 0) (L.getD i 0) = true ∨ (ledP lP 0 (L.getD (i - 1) 0) (L.getD i 0) = false ∧ ledP lP 1 (L.getD (i - 1) 0) (L.getD i 0) = true) from fun i i1 i2 => by
        rw [hL, ints_at _ (by omega), ints_at _ (by omega)]; exact f7 i i1 i2)
      rw [← hL] at HI HS
      have hP6 : m1 ≤ 6 := by have := hP.grid.w6; omega
      clear hL f1 f4 f5 f6 f7 hP hpl hp
      generalize gridR lP = R at *
      generalize gridG lP n1 m1 = z at *
      unfold byteAt at hlet
      have hw0 : (lP.getD 0 ByteArray.empty).size = m1 + 1 := hm1
      clear hm1
      obtain ⟨rb, hrb⟩ : ∃ rb, R = rb + 1 := ⟨R - 1, by omega⟩
      rw [show R - 1 = rb by omega] at hLz
      have EQ := Lib.hid (And.intro hn1 (And.intro hev (And.intro hw0 (And.intro hLl (And.intro hL0 (And.intro hLz (And.intro hrb hlet)))))))
      clear hn1 hev hw0 hLl hL0 hLz hrb hlet
      go_wp2_with fail
      refine (HI.out _ c_P).mono ?_
      rintro e w6 ⟨⟨roO, rcO, rfl, ow⟩, hb⟩
      replace c_P := c_P.below hb
      replace hB := below_step hB hB.size hb
      clear hb
      have c_O := owns_cells ow
      clear ow
      go_wp2_with fail
      refine (HS.out _ c_P).mono ?_
      rintro e w7 ⟨⟨roW, rcW, rfl, ow⟩, hb⟩
      replace c_P := c_P.below hb
      replace c_O := c_O.below hb
      replace hB := below_step hB hB.size hb
      clear hb
      have c_W := owns_cells ow
      clear ow
      go_wp2_with fail
      refine (sameInts_any _ _ _ _ _ _ L L _ rfl rfl (by have := EQ.out; unfold maxLen; omega) c_O c_W).mono ?_
      rw [eqI_self]
      rintro e w8 ⟨rfl, hq⟩
      have hb := quiet_below hq
      clear hq
      replace c_P := c_P.below hb
      replace c_O := c_O.below hb
      replace c_W := c_W.below hb
      replace hB := below_step hB hB.size hb
      clear hb
      obtain ⟨b0, o0, rfl, k0⟩ := c_P.str 0 (by have := EQ.out; omega)
      rw [Nat.add_zero] at k0
      generalize lP.getD 0 ByteArray.empty = s0 at *
      have CP := Lib.hid c_P; have CO := Lib.hid c_O; have HB9 := Lib.hid hB
      clear c_P c_O c_W hB
      have h0l : (0 : Int) < (lP.length : Int) := by have := EQ.out; omega
      go_wp2
      clear k0
      go_loopw [10] (fun vi wr => ∃ i : Nat, 1 ≤ i ∧ i ≤ R ∧ vi = .int .i64 i ∧ Below w8.heap.size w8 wr) (fun vi _ => R - (intOf vi).toNat)
      case atStart => exact ⟨1, Nat.le_refl _, by omega, rfl, Below.refl _ _⟩
      case round =>
        obtain ⟨i, hi1, hi, rfl, hq⟩ := hrel
        by_cases hlt : i < R
        · have hlt' : decide ((i : Int) < (L.length : Int)) = true := by rw [decide_eq_true_eq]; have := EQ.out; omega
          obtain ⟨j, hj⟩ : ∃ j, i = j + 1 := ⟨i - 1, by omega⟩
          have hij : (i : Int) - 1 = (j : Int) := by omega
          have hjl2 : (j : Int) < (L.length : Int) := by have := EQ.out; omega
          have hj0 : (0 : Int) ≤ (j : Int) := by omega
          have hil2 : (i : Int) < (L.length : Int) := by have := EQ.out; omega
          obtain ⟨bo, oo, rfl, kx⟩ := (CO.out.below hq).int j (by have := EQ.out; omega)
          obtain ⟨bo2, oo2, he, ky⟩ := (CO.out.below hq).int i (by have := EQ.out; omega)
          simp only [Option.some.injEq, Addr.mk.injEq, and_true] at he
          obtain ⟨rfl, rfl⟩ := he
          have hcc := HC.out i hi1 hlt
          rw [show i - 1 = j by omega] at hcc
          have HCL := Lib.hid (fun (d : Nat) (os : Array Obj) => Calls.regrown_of (HL.out (L.getD j 0) (L.getD i 0) (Sort.grow (redrawn wr d) os) ((CP.out.below hq).below (below_regrown wr d os))))
          have HCU := Lib.hid (fun (d : Nat) (os : Array Obj) => Calls.regrown_of (HU.out (L.getD j 0) (L.getD i 0) (Sort.grow (redrawn wr d) os) ((CP.out.below hq).below (below_regrown wr d os))))
          generalize L.getD j 0 = X at *
          generalize L.getD i 0 = Y at *
          have HJ := Lib.hid hj; clear hj
          have q1 : ∀ r : Regrown, (Sort.grow (redrawn wr r.d) r.os).cell? _ = some (.int .i64 X) := fun r => cell_regrown kx r.d r.os
          have q2 : ∀ r : Regrown, (Sort.grow (redrawn wr r.d) r.os).cell? _ = some (.int .i64 Y) := fun r => cell_regrown ky r.d r.os
          clear kx ky
          rcases hcc with h1 | ⟨h1, h2⟩
          · rw [h1] at HCL
            clear HCU h1
            go_wp2
            refine wp_region_quiet_below (by kernel_rfl) (by kernel_rfl) ?_
            repeat (first | go_big_quiet_step (with_reducible first | exact HCL.out _ _ | exact HCU.out _ _) | quiet_step (with_reducible first | exact HCL.out _ _ | exact HCU.out _ _))
            refine wpQuiet_nil ?_
            rintro _ ⟨r, rfl⟩
            have hb7 := below_regrown wr r.d r.os
            generalize Sort.grow (redrawn wr r.d) r.os = W7 at *
            have hq7 := below_step hq hq.size hb7
            go_wp2
            go_roundw
            case rel => exact ⟨i + 1, by omega, by omega, by go_num, hq7⟩
            case measure => simp [intOf]; omega
          · rw [h1] at HCL
            rw [h2] at HCU
            clear h1 h2
            go_wp2
            refine wp_region_quiet_below (by kernel_rfl) (by kernel_rfl) ?_
            repeat (first | go_big_quiet_step (with_reducible first | exact HCL.out _ _ | exact HCU.out _ _) | quiet_step (with_reducible first | exact HCL.out _ _ | exact HCU.out _ _))
            refine wpQuiet_nil ?_
            rintro _ ⟨r, rfl⟩
            have hb7 := below_regrown wr r.d r.os
            generalize Sort.grow (redrawn wr r.d) r.os = W7 at *
            have hq7 := below_step hq hq.size hb7
            go_wp2
            go_roundw
            case rel => exact ⟨i + 1, by omega, by omega, by go_num, hq7⟩
            case measure => simp [intOf]; omega
        · obtain rfl : i = R := by omega
          have hlt' : decide ((i : Int) < (L.length : Int)) = false := by rw [decide_eq_false_iff_not]; have := EQ.out; omega
          have hng : ¬ i < L.length := by have := EQ.out; omega
          have hB := below_step HB9.out HB9.out.size hq
          have c_P := CP.out.below hq
          have c_O := CO.out.below hq
          clear hq
          go_wp2_with fail
          refine (HR.out _ c_P).mono ?_
          rintro e w9 ⟨rfl, hb⟩
          replace c_P := c_P.below hb
          replace c_O := c_O.below hb
          replace hB := below_step hB hB.size hb
          clear hb
          go_wp2_with fail
          refine (sorted_any _ _ L _ (by have := EQ.out; omega) (by have := EQ.out; omega) c_O).mono ?_
          rintro e w20 ⟨roS, rcS, sS, rfl, c_S, pS, oS, hb⟩
          replace c_P := c_P.below hb
          replace c_O := c_O.below hb
          replace hB := below_step hB hB.size hb
          clear hb
          have hs := sorted_same pS (List.Perm.refl _) HPE.out oS (ints_sorted i)
          have HSL := Lib.hid (show sS.length = i by rw [hs, intsL_len, List.length_range])
          have HSA := Lib.hid (show ∀ k, k < i → sS.getD k 0 = (k : Int) from fun k hk => by rw [hs]; exact ints_range i k hk)
          clear hs pS oS
          have CP := Lib.hid c_P; have CO := Lib.hid c_O; have CS := Lib.hid c_S; have HB9 := Lib.hid hB
          clear c_P c_O c_S hB
          go_wp2
          go_loopw [14] (fun vi wr => ∃ k : Nat, k ≤ i ∧ vi = .int .i64 k ∧ Below w20.heap.size w20 wr) (fun vi _ => i - (intOf vi).toNat)
          case atStart => exact ⟨0, Nat.zero_le _, rfl, Below.refl _ _⟩
          case round =>
            obtain ⟨k, hk, rfl, hq⟩ := hrel
            by_cases hki : k < i
            · obtain ⟨bs, os, rfl, ks⟩ := (CS.out.below hq).int k (by have := HSL.out; omega)
              rw [HSA.out k hki] at ks
              have hkl : (k : Int) < (sS.length : Int) := by have := HSL.out; omega
              have hd : ((k : Int) != (k : Int)) = false := by simp
              go_wp2
              go_roundw
              case rel => exact ⟨k + 1, by omega, by go_num, hq⟩
              case measure => simp [intOf]; omega
            · obtain rfl : k = i := by omega
              obtain ⟨hn1, hev, hw0, hLl, hL0, hLz, hrb, hlet⟩ := EQ.out
              have hsl := HSL.out
              obtain ⟨ba, oa, rfl, ka⟩ := (CO.out.below hq).int 0 (by omega)
              obtain ⟨bz, oz, he, kz⟩ := (CO.out.below hq).int rb (by omega)
              simp only [Option.some.injEq, Addr.mk.injEq, and_true] at he
              obtain ⟨rfl, rfl⟩ := he
              rw [hL0, Nat.add_zero] at ka
              rw [hLz] at kz
              obtain ⟨bp, op, he, kp⟩ := (CP.out.below hq).str n1 (by omega)
              simp only [Option.some.injEq, Addr.mk.injEq, and_true] at he
              obtain ⟨rfl, rfl⟩ := he
              obtain ⟨s1, hs1⟩ : ∃ s1, s1 = lP.getD n1 ByteArray.empty := ⟨_, rfl⟩
              rw [← hs1] at hev kp hlet
              have hms : m1 < s1.size := by omega
              have hat := at_list s1 m1 hms
              obtain ⟨cc, hcc⟩ : ∃ cc, cc = s1.data.toList.getD m1 0 := ⟨_, rfl⟩
              rw [← hcc] at hat hlet
              clear hcc hs1 EQ
              have hBF := below_step HB9.out HB9.out.size hq
              have e1 : (lP.length : Int) - 1 = (n1 : Int) := by omega
              have e2 : (s0.size : Int) - 1 = (m1 : Int) := by omega
              have e3 : (L.length : Int) - 1 = (rb : Int) := by omega
              have e4 : (sS.length : Int) = (k : Int) := by omega
              have l1n : n1 < lP.length := by omega
              have l3n : rb < L.length := by omega
              have l4n : 0 < L.length := by omega
              have l1 : (n1 : Int) < (lP.length : Int) := by omega
              have l2 : (m1 : Int) < (s1.size : Int) := by omega
              have l3 : (rb : Int) < (L.length : Int) := by omega
              have l4 : (0 : Int) < (L.length : Int) := by omega
              have hzz : ((z : Nat) : Int) = (cc.toNat : Int) - 97 := by omega
              have r0 : IntKind.i64.wrap ((rb : Nat) : Int) = ((rb : Nat) : Int) := IntWalk.i64_in _ (by omega)
              have r1 : IntKind.i64.wrap ((n1 : Nat) : Int) = ((n1 : Nat) : Int) := IntWalk.i64_in _ (by omega)
              have r2 : IntKind.i64.wrap ((m1 : Nat) : Int) = ((m1 : Nat) : Int) := IntWalk.i64_in _ (by have := hP6; omega)
              have r3 : IntKind.i64.wrap (((cc.toNat : Nat) : Int) - 97) = ((cc.toNat : Nat) : Int) - 97 := IntWalk.i64_in _ (by omega)
              have r4 : IntKind.i64.wrap ((cc.toNat : Nat) : Int) = ((cc.toNat : Nat) : Int) := IntWalk.i64_in _ (by omega)
              have hsg : ¬ k < sS.length := by omega
              rw [hzz] at kz
              clear hzz hn1 hev hw0 hLl hL0 hLz hrb hlet hsl
              go_wp2
              go_quiet (fail)
              go_wp2
              go_ret
              exact ⟨rfl, hBF.trans (below_drewN _ _ _)⟩
  · have hdC : decide (1048576 < (lC.length : Int)) = true := by rw [decide_eq_true_eq]; omega
    go_enter Try.func7, Try.ntmps7
    go_wp2
    go_ret
    exact ⟨rfl, Below.refl _ _⟩

set_option maxRecDepth 100000 in
theorem fnFirst_lifted (os : Os) (started : os.Started) (H : Type) (enc : TypeId × Value → H) :
    ReturnsInHanded {} Try.checked os 7 .any (Rows.fnFirstSpec.pre6 enc Try.prog Try.f7 Rows.fnFirstRow.domain false) (Rows.fnFirstSpec.post enc Try.prog Try.f7 false true false false) := by
  refine returnsInHanded_of_change (C := Try.checked) Try.own started (by kernel_rfl) Try.func7
    (ChangeSpec.witness6 (enc := enc) (C := Try.checked) false ⟨#[], #[.slice none 0 0], []⟩ 8 (by kernel_rfl) (by kernel_rfl) (by kernel_rfl) (by kernel_rfl)) ?_
  intro W base args ds gs before hval0 hW _ _
  have hval : ∀ (j : Nat) t v, Try.f7.params[j]? = some t → args[j]? = some v → Value.okWide Try.prog W .any base t v := hval0
  have hW' := hW
  obtain ⟨p, q, hA0, hV, rfl, _, _⟩ := hW
  have hA : DataW.TrodAll enc Try.prog W 0 (fun _ => true) true Try.f7.params.toList args.toList ds p := hA0
  rw [Try.params7] at hA hval
  obtain ⟨v0, d0, rfl, rfl, h0⟩ := trodAll_one hA
  obtain ⟨rfl, rfl⟩ := trodVars_none hV
  obtain ⟨aC, eC, kC, rfl⟩ := okWide_slice Try.underlying22 (hval 0 22 v0 rfl rfl)
  clear hA0 hval0
  simp only [List.append_nil] at hW'
  have hlt0 : ∀ x ∈ p, x.block < W.heap.size := fun x hx => by simpa using hW'.lt x (by simp [hx])
  obtain ⟨lC, rfl, mC, zC, cC⟩ := open_bytes h0
  refine (fnFirst_all aC kC lC W mC zC cC).mono fun e W' ⟨he, hb⟩ => ?_
  subst he
  refine ⟨_, rfl, _, _, _, [], _, [], hW', trodAll_mk1 (shut_bool Try.underlying4 _), trodAll_mk1 (Below.trod Try.laidOut (by kernel_rfl) (of_decide_eq_true (by kernel_rfl)) h0 hb hlt0), rfl, hb.frame _, fun h => by cases h⟩

theorem fnFirst_holds : Rows.FnFirstSaid :=
  OpenClaim.holds_of_wide 7 Try.f7 rfl rfl rfl rfl rfl rfl rfl ⟨rfl, rfl, rfl, rfl, rfl⟩ rfl rfl rfl rfl rfl (by kernel_rfl) Try.func7 (by kernel_rfl)
    (of_decide_eq_true (by kernel_rfl)) (by unfold Func.isWrapper; first | (rw [if_pos (by decide +kernel)]; kernel_rfl) | (rw [if_neg (by decide +kernel)]; exact ⟨rfl, rfl⟩))
    (fun os started H enc _ => fnFirst_lifted os started H enc)

end Go.Proofs.Ytcapagegeomebaa
