
/-
  For every slice of bytes the law FnLongest returns true, and the slice reads behind the call as it read before. No condition.
-/
import Derived.Test.YtdhnklaflbaeeaaLongM
import Derived.Test.YtdhnklaflbaeeaaDraw
import Derived.Test.YtdhnklaflbaeeaaLaws
namespace Go.Proofs.Ytdhnklaflbaeeaa
open Go.ChangeShapes Go.WideShapes Go.ChangeAt Go.RowKit

set_option maxRecDepth 100000 in
set_option maxHeartbeats 4000000 in
theorem fnLongest_all (aC : Option Addr) (kC : Nat) (lC : List UInt8) (w : World) (mC : lC.length ≤ maxLen) (zC : lC.length ≤ kC) (cC : CellsAt w aC (lC.map byteV)) :
    Calls Try.prog 17 #[.slice aC lC.length kC] w fun e w' => e = .returned (.bool true) ∧ Below w.heap.size w w' := by
  have mC2 := mC
  clear mC2
  by_cases dC : lC.length ≤ 1048576
  · have hdC : decide (1048576 < (lC.length : Int)) = false := by rw [decide_eq_false_iff_not]; omega
    go_enter Try.func17, Try.ntmps17
    go_wp2_with fail
    refine (drawWallLongest_any _ _ _ _ zC dC cC).mono ?_
    rintro e w1 ⟨⟨roP, rcP, lP, hsm, rfl, c_P⟩, hb⟩
    have hB := hb
    clear hb
    have LP : lP.length ≤ 1048576 := by have := hsm.2.1; omega
    have SP : ∀ s ∈ lP, s.size ≤ 1048576 := fun s h => by have := hsm.2.2 s h; omega
    cases hp : longOk lP
    · -- no wall
      have HI := Lib.hid (fun w c => implWallLongest_any roP rcP lP w LP SP c)
      have HS := Lib.hid (fun w c => specWallLongest_any roP rcP lP w LP SP c)
      rw [hp] at HI HS
      generalize longI lP = I at *
      generalize longN lP = M at *
      go_wp2_with fail
      refine (HI.out _ c_P).mono ?_
      rintro e w2 ⟨rfl, hb⟩
      replace c_P := c_P.below hb
      replace hB := below_step hB hB.size hb
      clear hb
      go_wp2_with fail
      refine (HS.out _ c_P).mono ?_
      rintro e w3 ⟨rfl, hb⟩
      replace c_P := c_P.below hb
      replace hB := below_step hB hB.size hb
      clear hb
      go_wp2
      go_ret
      exact ⟨rfl, hB⟩
    · -- a wall
      have HI := Lib.hid (fun w c => implWallLongest_any roP rcP lP w LP SP c)
      have HS := Lib.hid (fun w c => specWallLongest_any roP rcP lP w LP SP c)
      have HL := Lib.hid (fun w c => implWallList_any roP rcP lP w LP SP c)
      obtain ⟨hP, hi, hx, hM6, hlo, hhi⟩ := long_math hp
      rw [hp] at HI HS
      rw [hP] at HL
      have hle := wallsP_len lP
      unfold listOr at HL
      generalize wallsP lP = L at *
      have HX := Lib.hid hx; have HLO := Lib.hid hlo; have HHI := Lib.hid hhi
      clear hx hlo hhi
      have hLL : (L.map wlN).length = L.length := List.length_map _
      generalize longI lP = I at *
      generalize longN lP = M at *
      go_wp2_with fail
      refine (HI.out _ c_P).mono ?_
      rintro e w4 ⟨rfl, hb⟩
      replace c_P := c_P.below hb
      replace hB := below_step hB hB.size hb
      clear hb
      go_wp2_with fail
      refine (HS.out _ c_P).mono ?_
      rintro e w5 ⟨rfl, hb⟩
      replace c_P := c_P.below hb
      replace hB := below_step hB hB.size hb
      clear hb
      go_wp2_with fail
      refine (HL.out _ c_P).mono ?_
      rintro e w6 ⟨⟨roL, rcL, rfl, us, hus⟩, hb⟩
      replace c_P := c_P.below hb
      replace hB := below_step hB hB.size hb
      clear hb
      have HRO := Lib.hid hus
      clear hus
      rw [hLL]
      clear hLL
      obtain ⟨WK, hWK⟩ : ∃ WK, WK = w6 := ⟨_, rfl⟩
      have hB9 := Lib.hid hB
      clear hB
      go_wp2
      go_loopw [12] (fun vi wr => ∃ i : Nat, i ≤ L.length ∧ vi = .int .i64 i ∧ wr = w6) (fun vi _ => L.length - (intOf vi).toNat)
      case atStart => exact ⟨0, Nat.zero_le _, rfl, rfl⟩
      case round =>
        obtain ⟨i, hi2, rfl, rfl⟩ := hrel
        by_cases hlt : i < L.length
        · have hlt' : decide ((i : Int) < (L.length : Int)) = true := by rw [decide_eq_true_eq]; omega
          obtain ⟨bb, off, gg, cc, rfl, k0, _, _, _, k3⟩ := rows_wl HRO.out hlt
          have h1 := HHI.out i hlt
          rcases Nat.lt_trichotomy i I with hq | hq | hq
          · have h2 := HLO.out i hq
            generalize (L.getD i zeroWl).long = y at *
            have a1 : decide ((M : Int) < (y : Int)) = false := by rw [decide_eq_false_iff_not]; omega
            have a2 : decide ((i : Int) < (I : Int)) = true := by rw [decide_eq_true_eq]; omega
            have a3 : ((y : Int) == (M : Int)) = false := by rw [beq_eq_false_iff_ne]; omega
            have a4 : ((i : Int) == (I : Int)) = false := by rw [beq_eq_false_iff_ne]; omega
            have h2n := Lib.hid h2; clear h2
            go_wp2
            go_roundw
            case rel => exact ⟨i + 1, by omega, by go_num, trivial⟩
            case measure => simp [intOf]; omega
          · subst hq; have h2 : (L.getD i zeroWl).long = M := HX.out
            generalize (L.getD i zeroWl).long = y at *
            have a1 : decide ((M : Int) < (y : Int)) = false := by rw [decide_eq_false_iff_not]; omega
            have a2 : decide ((i : Int) < (i : Int)) = false := by rw [decide_eq_false_iff_not]; omega
            have a4 : ((i : Int) == (i : Int)) = true := by rw [beq_iff_eq]
            have a5 : ((y : Int) != (M : Int)) = false := by rw [bne_eq_false_iff_eq]; omega
            have h2n := Lib.hid h2; clear h2
            go_wp2
            go_roundw
            case rel => exact ⟨i + 1, by omega, by go_num, trivial⟩
            case measure => simp [intOf]; omega
          · have h2 := hq
            generalize (L.getD i zeroWl).long = y at *
            have a1 : decide ((M : Int) < (y : Int)) = false := by rw [decide_eq_false_iff_not]; omega
            have a2 : decide ((i : Int) < (I : Int)) = false := by rw [decide_eq_false_iff_not]; omega
            have a4 : ((i : Int) == (I : Int)) = false := by rw [beq_eq_false_iff_ne]; omega
            have h2n := Lib.hid h2; clear h2
            go_wp2
            go_roundw
            case rel => exact ⟨i + 1, by omega, by go_num, trivial⟩
            case measure => simp [intOf]; omega
        · obtain rfl : i = L.length := by omega
          have hlt' : decide ((L.length : Int) < (L.length : Int)) = false := by rw [decide_eq_false_iff_not]; omega
          have h3 : decide ((I : Int) < (L.length : Int)) = true := by rw [decide_eq_true_eq]; omega
          go_wp2
          go_ret
          exact ⟨rfl, hB9.out⟩
  · have hdC : decide (1048576 < (lC.length : Int)) = true := by rw [decide_eq_true_eq]; omega
    go_enter Try.func17, Try.ntmps17
    go_wp2
    go_ret
    exact ⟨rfl, Below.refl _ _⟩

set_option maxRecDepth 100000 in
theorem fnLongest_lifted (os : Os) (started : os.Started) (H : Type) (enc : TypeId × Value → H) :
    ReturnsInHanded {} Try.checked os 17 .any (Rows.fnLongestSpec.pre6 enc Try.prog Try.f17 Rows.fnLongestRow.domain false) (Rows.fnLongestSpec.post enc Try.prog Try.f17 false true false false) := by
  refine returnsInHanded_of_change (C := Try.checked) Try.own started (by kernel_rfl) Try.func17
    (ChangeSpec.witness6 (enc := enc) (C := Try.checked) false ⟨#[], #[.slice none 0 0], []⟩ 8 (by kernel_rfl) (by kernel_rfl) (by kernel_rfl) (by kernel_rfl)) ?_
  intro W base args ds gs before hval0 hW _ _
  have hval : ∀ (j : Nat) t v, Try.f17.params[j]? = some t → args[j]? = some v → Value.okWide Try.prog W .any base t v := hval0
  have hW' := hW
  obtain ⟨p, q, hA0, hV, rfl, _, _⟩ := hW
  have hA : DataW.TrodAll enc Try.prog W 0 (fun _ => true) true Try.f17.params.toList args.toList ds p := hA0
  rw [Try.params17] at hA hval
  obtain ⟨v0, d0, rfl, rfl, h0⟩ := trodAll_one hA
  obtain ⟨rfl, rfl⟩ := trodVars_none hV
  obtain ⟨aC, eC, kC, rfl⟩ := okWide_slice Try.underlying22 (hval 0 22 v0 rfl rfl)
  clear hA0 hval0
  simp only [List.append_nil] at hW'
  have hlt0 : ∀ x ∈ p, x.block < W.heap.size := fun x hx => by simpa using hW'.lt x (by simp [hx])
  obtain ⟨lC, rfl, mC, zC, cC⟩ := open_bytes h0
  refine (fnLongest_all aC kC lC W mC zC cC).mono fun e W' ⟨he, hb⟩ => ?_
  subst he
  refine ⟨_, rfl, _, _, _, [], _, [], hW', trodAll_mk1 (shut_bool Try.underlying4 _), trodAll_mk1 (Below.trod Try.laidOut (by kernel_rfl) (of_decide_eq_true (by kernel_rfl)) h0 hb hlt0), rfl, hb.frame _, fun h => by cases h⟩

theorem fnLongest_holds : Rows.FnLongestSaid :=
  OpenClaim.holds_of_wide 17 Try.f17 rfl rfl rfl rfl rfl rfl rfl ⟨rfl, rfl, rfl, rfl, rfl⟩ rfl rfl rfl rfl rfl (by kernel_rfl) Try.func17 (by kernel_rfl)
    (of_decide_eq_true (by kernel_rfl)) (by unfold Func.isWrapper; first | (rw [if_pos (by decide +kernel)]; kernel_rfl) | (rw [if_neg (by decide +kernel)]; exact ⟨rfl, rfl⟩))
    (fun os started H enc _ => fnLongest_lifted os started H enc)

end Go.Proofs.Ytdhnklaflbaeeaa
