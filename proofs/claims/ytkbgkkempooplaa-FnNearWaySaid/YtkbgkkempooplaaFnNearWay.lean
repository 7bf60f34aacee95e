
/-
  For every slice of bytes the law FnNearWay returns true, and the slice reads behind the call as it read before. No condition.
-/
import Derived.Test.YtkbgkkempooplaaNearD
import Derived.Test.YtkbgkkempooplaaDrawN
import Derived.Test.YtkbgkkempooplaaDraw
import Derived.Test.YtkbgkkempooplaaLaws
namespace Go.Proofs.Ytkbgkkempooplaa
open Go.ChangeShapes Go.WideShapes Go.ChangeAt Go.RowKit

set_option maxRecDepth 100000 in
set_option maxHeartbeats 4000000 in
theorem fnNearWay_all (aC : Option Addr) (kC : Nat) (lC : List UInt8) (w : World) (mC : lC.length ≤ maxLen) (zC : lC.length ≤ kC) (cC : CellsAt w aC (lC.map byteV)) :
    Calls Try.prog 4 #[.slice aC lC.length kC] w fun e w' => e = .returned (.bool true) ∧ Below w.heap.size w w' := by
  have mC2 := mC
  clear mC2
  by_cases dC : lC.length ≤ 1048576
  · have hdC : decide (1048576 < (lC.length : Int)) = false := by rw [decide_eq_false_iff_not]; omega
    go_enter Try.func4, Try.ntmps4
    go_wp2_with fail
    refine (drawNearWay_any _ _ _ _ zC dC cC).mono ?_
    rintro e w1 ⟨⟨roP, rcP, lP, nA, nB, hsm, rfl, c_P⟩, hb⟩
    have hB := hb
    clear hb
    have LP : lP.length ≤ 1048576 := by have := hsm.2.1; omega
    have SP : ∀ s ∈ lP, s.size ≤ 1048576 := fun s h => by have := hsm.2.2 s h; omega
    have HI := Lib.hid (fun w c => implNearWay_any roP rcP lP nA nB w LP SP c)
    have HS := Lib.hid (fun w c => specNearWay_any roP rcP lP nA nB w LP SP c)
    cases hd : wayOk lP nA nB
    · -- no two rooms
      rw [hd] at HI HS
      generalize wayN lP nA nB = n at *
      go_wp2_with fail
      refine (HI.out _ c_P).mono ?_
      rintro e w2 ⟨rfl, hb⟩
      replace c_P := c_P.below hb
      replace hB := below_step hB hB.size hb
      clear hb
      go_wp2_with fail
      refine (HS.out _ c_P).mono ?_
      rintro e w3 ⟨rfl, hb⟩
      replace c_P := c_P.below hb
      replace hB := below_step hB hB.size hb
      clear hb
      go_wp2
      go_ret
      exact ⟨rfl, hB⟩
    · -- two rooms
      obtain ⟨hok, hn, hz, h9, hga, hlen, hmem⟩ := way_math hd
      have HJ := Lib.hid (fun w c => implNearWay_any roP rcP lP nB nA w LP SP c)
      have HO := Lib.hid (fun w c => implNearOf_any roP rcP lP nA w LP SP c)
      have HW := Lib.hid (fun (x : Int) w c => implNearWay_any roP rcP lP x nB w LP SP c)
      have HM := Lib.hid hmem
      rw [hd] at HI HS
      rw [hok, hn] at HJ
      rw [hga] at HO
      clear hd hok hn hga hmem
      generalize nearL lP nA = L at *
      generalize hwf : (fun x => wayN lP x nB) = F at *
      have HF := Lib.hid (show ∀ x, wayN lP x nB = F x by rw [← hwf]; exact fun _ => rfl)
      clear hwf
      generalize wayN lP nA nB = n at *
      have hfin : (((n : Int) == 0) == (nA == nB)) = true := by rw [beq_iff_eq, Bool.eq_iff_iff, beq_iff_eq, beq_iff_eq]; omega
      go_wp2_with fail
      refine (HI.out _ c_P).mono ?_
      rintro e w4 ⟨rfl, hb⟩
      replace c_P := c_P.below hb
      replace hB := below_step hB hB.size hb
      clear hb
      go_wp2_with fail
      refine (HS.out _ c_P).mono ?_
      rintro e w5 ⟨rfl, hb⟩
      replace c_P := c_P.below hb
      replace hB := below_step hB hB.size hb
      clear hb
      go_wp2_with fail
      refine (HJ.out _ c_P).mono ?_
      rintro e w6 ⟨rfl, hb⟩
      replace c_P := c_P.below hb
      replace hB := below_step hB hB.size hb
      clear hb
      go_wp2_with fail
      refine (HO.out _ c_P).mono ?_
      rintro e w7 ⟨⟨roO, rcO, rfl, ow⟩, hb⟩
      replace c_P := c_P.below hb
      replace hB := below_step hB hB.size hb
      clear hb
      have c_O := owns_cells ow
      clear ow
      have CP := Lib.hid c_P; have CO := Lib.hid c_O; have HB9 := Lib.hid hB; have HZ := Lib.hid hz
      clear c_P c_O hB hz
      go_wp2
      go_loopw [14] (fun vi wr => ∃ i : Nat, i ≤ L.length ∧ vi = .int .i64 i ∧ Below w7.heap.size w7 wr) (fun vi _ => L.length - (intOf vi).toNat)
      case atStart => exact ⟨0, Nat.zero_le _, rfl, Below.refl _ _⟩
      case round =>
        obtain ⟨i, hi, rfl, hq⟩ := hrel
        by_cases hlt : i < L.length
        · have hlt' : decide ((i : Int) < (L.length : Int)) = true := by rw [decide_eq_true_eq]; omega
          obtain ⟨b, off, rfl, hck⟩ := (CO.out.below hq).int i hlt
          obtain ⟨m1, m2, m3⟩ := HM.out i hlt
          have HCL := Lib.hid (HW.out (L.getD i 0) wr (CP.out.below hq))
          rw [m1] at HCL
          generalize wayN lP (L.getD i 0) nB = y at *
          generalize L.getD i 0 = X at *
          have hny : decide ((y : Int) + 1 < (n : Int)) = false := by rw [decide_eq_false_iff_not]; omega
          go_wp2_with fail
          refine (HCL.out).mono ?_
          rintro e w7 ⟨rfl, hb7⟩
          have hq7 := below_step hq hq.size hb7
          go_wp2
          go_roundw
          case rel => exact ⟨i + 1, by omega, by go_num, hq7⟩
          case measure => simp [intOf]; omega
        · obtain rfl : i = L.length := by omega
          have hlt' : decide ((L.length : Int) < (L.length : Int)) = false := by rw [decide_eq_false_iff_not]; omega
          go_wp2
          go_ret
          exact ⟨rfl, below_step HB9.out HB9.out.size hq⟩
  · have hdC : decide (1048576 < (lC.length : Int)) = true := by rw [decide_eq_true_eq]; omega
    go_enter Try.func4, Try.ntmps4
    go_wp2
    go_ret
    exact ⟨rfl, Below.refl _ _⟩

set_option maxRecDepth 100000 in
theorem fnNearWay_lifted (os : Os) (started : os.Started) (H : Type) (enc : TypeId × Value → H) :
    ReturnsInHanded {} Try.checked os 4 .any (Rows.fnNearWaySpec.pre6 enc Try.prog Try.f4 Rows.fnNearWayRow.domain false) (Rows.fnNearWaySpec.post enc Try.prog Try.f4 false true false false) := by
  refine returnsInHanded_of_change (C := Try.checked) Try.own started (by kernel_rfl) Try.func4
    (ChangeSpec.witness6 (enc := enc) (C := Try.checked) false ⟨#[], #[.slice none 0 0], []⟩ 8 (by kernel_rfl) (by kernel_rfl) (by kernel_rfl) (by kernel_rfl)) ?_
  intro W base args ds gs before hval0 hW _ _
  have hval : ∀ (j : Nat) t v, Try.f4.params[j]? = some t → args[j]? = some v → Value.okWide Try.prog W .any base t v := hval0
  have hW' := hW
  obtain ⟨p, q, hA0, hV, rfl, _, _⟩ := hW
  have hA : DataW.TrodAll enc Try.prog W 0 (fun _ => true) true Try.f4.params.toList args.toList ds p := hA0
  rw [Try.params4] at hA hval
  obtain ⟨v0, d0, rfl, rfl, h0⟩ := trodAll_one hA
  obtain ⟨rfl, rfl⟩ := trodVars_none hV
  obtain ⟨aC, eC, kC, rfl⟩ := okWide_slice Try.underlying22 (hval 0 22 v0 rfl rfl)
  clear hA0 hval0
  simp only [List.append_nil] at hW'
  have hlt0 : ∀ x ∈ p, x.block < W.heap.size := fun x hx => by simpa using hW'.lt x (by simp [hx])
  obtain ⟨lC, rfl, mC, zC, cC⟩ := open_bytes h0
  refine (fnNearWay_all aC kC lC W mC zC cC).mono fun e W' ⟨he, hb⟩ => ?_
  subst he
  refine ⟨_, rfl, _, _, _, [], _, [], hW', trodAll_mk1 (shut_bool Try.underlying4 _), trodAll_mk1 (Below.trod Try.laidOut (by kernel_rfl) (of_decide_eq_true (by kernel_rfl)) h0 hb hlt0), rfl, hb.frame _, fun h => by cases h⟩

theorem fnNearWay_holds : Rows.FnNearWaySaid :=
  OpenClaim.holds_of_wide 4 Try.f4 rfl rfl rfl rfl rfl rfl rfl ⟨rfl, rfl, rfl, rfl, rfl⟩ rfl rfl rfl rfl rfl (by kernel_rfl) Try.func4 (by kernel_rfl)
    (of_decide_eq_true (by kernel_rfl)) (by unfold Func.isWrapper; first | (rw [if_pos (by decide +kernel)]; kernel_rfl) | (rw [if_neg (by decide +kernel)]; exact ⟨rfl, rfl⟩))
    (fun os started H enc _ => fnNearWay_lifted os started H enc)

end Go.Proofs.Ytkbgkkempooplaa
