
/-
  For every slice of bytes the law FnWideNeeds returns true, and the slice reads behind the call as it read before. No condition.
-/
import Derived.Test.YtobkbgbkkiiloaaGreatSizF
import Derived.Test.YtobkbgbkkiiloaaGreatDrawQ
import Derived.Test.YtobkbgbkkiiloaaGreatAreas
import Derived.Test.YtobkbgbkkiiloaaGreatDraw
import Derived.Test.YtobkbgbkkiiloaaGreatLaws
namespace Go.Proofs.YtobkbgbkkiiloaaGreat
open Go.ChangeShapes Go.WideShapes Go.ChangeAt Go.RowKit

set_option maxRecDepth 100000 in
set_option maxHeartbeats 4000000 in
theorem fnWideNeeds_all (aC : Option Addr) (kC : Nat) (lC : List UInt8) (w : World) (mC : lC.length ≤ maxLen) (zC : lC.length ≤ kC) (cC : CellsAt w aC (lC.map byteV)) :
    Calls Tryz.prog 3 #[.slice aC lC.length kC] w fun e w' => e = .returned (.bool true) ∧ Below w.heap.size w w' := by
  have mC2 := mC
  clear mC2
  by_cases dC : lC.length ≤ 1048576
  · have hdC : decide (1048576 < (lC.length : Int)) = false := by rw [decide_eq_false_iff_not]; omega
    go_enter Tryz.func3, Tryz.ntmps3
    go_wp2_with fail
    refine (drawSizeWide_any _ _ _ _ zC dC cC).mono ?_
    rintro e w1 ⟨⟨roP, rcP, lP, roN, rcN, lN, hsm, hln, rfl, c_P, c_N⟩, hb⟩
    have hB := hb
    clear hb
    have LP : lP.length ≤ 1048576 := by have := hsm.2.1; omega
    have SP : ∀ s ∈ lP, s.size ≤ 1048576 := fun s h => by have := hsm.2.2 s h; omega
    have LN : lN.length ≤ 1048576 := by omega
    cases hp : sizedB lP lN
    · -- no needs
      have HI := Lib.hid (fun w c d => implSizeWide_any roP roN rcP rcN lP lN w LP SP LN c d)
      have HS := Lib.hid (fun w c d => specSizeWide_any roP roN rcP rcN lP lN w LP SP LN c d)
      rw [hp] at HI HS
      generalize wideV lP lN 0 = v at *
      clear hp
      go_wp2_with fail
      refine (HI.out _ c_P c_N).mono ?_
      rintro e w2 ⟨rfl, hb⟩
      replace c_P := c_P.below hb
      replace c_N := c_N.below hb
      replace hB := below_step hB hB.size hb
      clear hb
      go_wp2_with fail
      refine (HS.out _ c_P c_N).mono ?_
      rintro e w3 ⟨rfl, hb⟩
      replace c_P := c_P.below hb
      replace c_N := c_N.below hb
      replace hB := below_step hB hB.size hb
      clear hb
      go_wp2
      go_ret
      exact ⟨rfl, hB⟩
    · -- needs
      obtain ⟨im, hmi, hmz, hm1, hm2⟩ := info_parts Tryz.infoNum
      have HI := Lib.hid (fun w c d => implSizeWide_any roP roN rcP rcN lP lN w LP SP LN c d)
      have HS := Lib.hid (fun w c d => specSizeWide_any roP roN rcP rcN lP lN w LP SP LN c d)
      have HL := Lib.hid (fun w c => implOrderLong_any roP rcP lP w LP SP c)
      have hon : (onesI lN.length).length = lN.length := by unfold onesI; rw [List.length_replicate]
      have HO := Lib.hid (fun ro rc w c d => implSizeWide_any roP ro rcP rc lP (onesI lN.length) w LP SP (by rw [hon]; exact LN) c d)
      rw [hon] at HO
      have ho := ones_sized hp
      obtain ⟨m1, m2, m3, m4⟩ := wideNeeds_math hp
      obtain ⟨k1, k2, k3⟩ := sizedB_yes hp
      have hr9 := (sized_facts hp).2.2.2.1
      have hv := wideV_le lP lN (way := 0) (by omega)
      rw [hp] at HI HS
      rw [ho, m1] at HO
      rw [k1] at HL
      rw [m1] at m4
      have HNN := Lib.hid (fun a (ha : a < lN.length) => needB_at k3 ha)
      have hl9 : lN.length ≤ 9 := by omega
      have HTO := Lib.hid (fun w c => total_any roN rcN lN w (by omega) (fun x hx => by obtain ⟨a, ha, rfl⟩ := List.mem_iff_getElem.1 hx; have := HNN.out a ha; rw [List.getD_eq_getElem?_getD, List.getElem?_eq_getElem ha] at this; have h2 := this.1; simp only [Option.getD_some] at h2; omega) c)
      have HM2 := Lib.hid m2; have HM3 := Lib.hid m3; have HM4 := Lib.hid m4; clear m1 m2 m3 m4 ho hon k1 k2 k3 hr9 hp
      generalize wideV lP lN 0 = v at *
      generalize longP lP 0 = x at *
      generalize longP lP 1 = x1 at *
      go_wp2_with fail
      refine (HI.out _ c_P c_N).mono ?_
      rintro e w4 ⟨rfl, hb⟩
      replace c_P := c_P.below hb
      replace c_N := c_N.below hb
      replace hB := below_step hB hB.size hb
      clear hb
      go_wp2_with fail
      refine (HS.out _ c_P c_N).mono ?_
      rintro e w5 ⟨rfl, hb⟩
      replace c_P := c_P.below hb
      replace c_N := c_N.below hb
      replace hB := below_step hB hB.size hb
      clear hb
      have CP := Lib.hid c_P; have CN := Lib.hid c_N; have HB9 := Lib.hid hB
      clear c_P c_N hB
      have hX0 : (w5.alloc (.cells #[] 3)).ownsRow w5.heap.size 3 1 (.slice (some ⟨w5.heap.size, 0, none⟩) 0 0) 0 ((onesI 0).map (Value.int .i64)) := World.ownsRow_made w5 #[] 0 (Nat.le_refl _) (Nat.zero_le _) rfl
      have hb0 : Below w5.heap.size w5 (w5.alloc (.cells #[] 3)) := below_alloc _ _
      go_wp2
      generalize (w5.alloc (.cells #[] 3)) = w20 at *
      go_loopw [9, 10, 11] (fun va vm vi wr => ∃ (i : Nat) (oa : Option Addr) (ka : Nat), i ≤ lN.length ∧ vi = .int .i64 (i : Int) ∧ va = .slice oa i ka ∧ vm = .int .i64 (mostI lN i) ∧ Hid (wr.ownsRow w5.heap.size 3 1 (.slice oa i ka) i ((onesI i).map (Value.int .i64))) ∧ Below w5.heap.size w5 wr) (fun _ _ vi _ => lN.length - (intOf vi).toNat)
      case atStart => exact ⟨0, _, _, Nat.zero_le _, rfl, rfl, rfl, Lib.hid hX0, hb0⟩
      case round =>
        clear hX0 hb0
        obtain ⟨i, oa, ka, hi, rfl, rfl, rfl, hT, hq⟩ := hrel
        by_cases hlt : i < lN.length
        · have hlt' : decide ((i : Int) < (lN.length : Int)) = true := by rw [decide_eq_true_eq]; omega
          have hlt2 : (i : Int) < (lN.length : Int) := by omega
          have hbs0 : w5.heap.size ≤ wr.heap.size := hq.size
          go_wp2_with (at_builtin; refine wpList_push _ rfl _ _ 24 rfl w5.heap.size 3 im (.int .i64 0) 8 Tryz.underlying24 hmi hmz hm1 hm2 rfl oa _ ka _ rfl (ownsRow_below hT.out (below_alloc _ _)) _ _ _ rfl (cell_new _ _ _) rfl (by unfold maxLen; omega) (by omega) (by simp; omega) ?_; intro oc kc2 wc hown hg hnew)
          have hq2 : Below w5.heap.size w5 wc := below_push hq hq.size hg (fun b hb => (owns_lt hT.out b hb).1)
          have hT2 : wc.ownsRow w5.heap.size 3 1 (.slice oc (i + 1) kc2) (i + 1) ((onesI (i + 1)).map (Value.int .i64)) := by unfold onesI; rw [List.replicate_succ', List.map_append]; exact hown
          have HT2 := Lib.hid hT2
          clear hown hg hnew hT hT2 hmi hmz hm1 hm2
          obtain ⟨bn, on, rfl, kn⟩ := (CN.out.below hq2).int i (by omega)
          have hmo : mostI lN (i + 1) = if mostI lN i < lN.getD i 0 then lN.getD i 0 else mostI lN i := rfl
          have HMO := Lib.hid hmo; clear hmo
          generalize mostI lN i = m at *
          generalize lN.getD i 0 = y at *
          have hx : (Instr.indexAt 24 (Value.slice (some ⟨bn, on, none⟩) lN.length rcN) (Value.int IntKind.i64 (i : Int))).run Tryz.prog wc = .ok (.pointer (some ⟨bn, on + i, none⟩)) wc := by go_simp
          go_wp2
          simp only [hx, Result.andThen]
          go_wp2
          go_roundw
          case rel => exact ⟨i + 1, _, _, by omega, by go_num, rfl, by rw [HMO.out], HT2, hq2⟩
          case measure => simp [intOf]; omega
        · obtain rfl : i = lN.length := by omega
          have hlt' : decide ((lN.length : Int) < (lN.length : Int)) = false := by rw [decide_eq_false_iff_not]; omega
          have hB := below_step HB9.out HB9.out.size hq
          have c_P := CP.out.below hq
          have c_N := CN.out.below hq
          have c_O := owns_cells hT.out
          clear hT hq
          go_wp2_with fail
          refine (HO.out _ _ _ c_P c_O).mono ?_
          rintro e w6 ⟨rfl, hb⟩
          replace c_P := c_P.below hb
          replace c_N := c_N.below hb
          replace hB := below_step hB hB.size hb
          clear hb
          go_wp2_with fail
          refine (HL.out _ c_P).mono ?_
          rintro e w7 ⟨rfl, hb⟩
          replace c_P := c_P.below hb
          replace c_N := c_N.below hb
          replace hB := below_step hB hB.size hb
          clear hb
          have hm2 := HM2.out; have hm3 := HM3.out; have hm4 := HM4.out
          have hsv : (0 : Int) ≤ lN.sum := by omega
          generalize mostI lN lN.length = m at *
          generalize lN.sum = s at *
          have d1 : decide (m ≤ (v : Int)) = true := decide_eq_true hm2
          have d2 : decide ((v : Int) ≤ s) = true := decide_eq_true hm3
          have d3 : decide ((x : Int) ≤ (v : Int)) = true := decide_eq_true (by omega)
          have d4 : decide (x ≤ v) = true := decide_eq_true hm4
          go_wp2_with (go_at_call 12; refine (HTO.out _ c_N).mono ?_; rintro e w30 ⟨rfl, rfl⟩)
          go_ret
          exact ⟨rfl, hB⟩
  · have hdC : decide (1048576 < (lC.length : Int)) = true := by rw [decide_eq_true_eq]; omega
    go_enter Tryz.func3, Tryz.ntmps3
    go_wp2
    go_ret
    exact ⟨rfl, Below.refl _ _⟩

set_option maxRecDepth 100000 in
theorem fnWideNeeds_lifted (os : Os) (started : os.Started) (H : Type) (enc : TypeId × Value → H) :
    ReturnsInHanded {} Tryz.checked os 3 .any (Rows.fnWideNeedsSpec.pre6 enc Tryz.prog Tryz.f3 Rows.fnWideNeedsRow.domain false) (Rows.fnWideNeedsSpec.post enc Tryz.prog Tryz.f3 false true false false) := by
  refine returnsInHanded_of_change (C := Tryz.checked) Tryz.own started (by kernel_rfl) Tryz.func3
    (ChangeSpec.witness6 (enc := enc) (C := Tryz.checked) false ⟨#[], #[.slice none 0 0], []⟩ 8 (by kernel_rfl) (by kernel_rfl) (by kernel_rfl) (by kernel_rfl)) ?_
  intro W base args ds gs before hval0 hW _ _
  have hval : ∀ (j : Nat) t v, Tryz.f3.params[j]? = some t → args[j]? = some v → Value.okWide Tryz.prog W .any base t v := hval0
  have hW' := hW
  obtain ⟨p, q, hA0, hV, rfl, _, _⟩ := hW
  have hA : DataW.TrodAll enc Tryz.prog W 0 (fun _ => true) true Tryz.f3.params.toList args.toList ds p := hA0
  rw [Tryz.params3] at hA hval
  obtain ⟨v0, d0, rfl, rfl, h0⟩ := trodAll_one hA
  obtain ⟨rfl, rfl⟩ := trodVars_none hV
  obtain ⟨aC, eC, kC, rfl⟩ := okWide_slice Tryz.underlying22 (hval 0 22 v0 rfl rfl)
  clear hA0 hval0
  simp only [List.append_nil] at hW'
  have hlt0 : ∀ x ∈ p, x.block < W.heap.size := fun x hx => by simpa using hW'.lt x (by simp [hx])
  obtain ⟨lC, rfl, mC, zC, cC⟩ := open_bytes h0
  refine (fnWideNeeds_all aC kC lC W mC zC cC).mono fun e W' ⟨he, hb⟩ => ?_
  subst he
  refine ⟨_, rfl, _, _, _, [], _, [], hW', trodAll_mk1 (shut_bool Tryz.underlying4 _), trodAll_mk1 (Below.trod Tryz.laidOut (by kernel_rfl) (of_decide_eq_true (by kernel_rfl)) h0 hb hlt0), rfl, hb.frame _, fun h => by cases h⟩

theorem fnWideNeeds_holds : Rows.FnWideNeedsSaid :=
  OpenClaim.holds_of_wide 3 Tryz.f3 rfl rfl rfl rfl rfl rfl rfl ⟨rfl, rfl, rfl, rfl, rfl⟩ rfl rfl rfl rfl rfl (by kernel_rfl) Tryz.func3 (by kernel_rfl)
    (of_decide_eq_true (by kernel_rfl)) (by unfold Func.isWrapper; first | (rw [if_pos (by decide +kernel)]; kernel_rfl) | (rw [if_neg (by decide +kernel)]; exact ⟨rfl, rfl⟩))
    (fun os started H enc _ => fnWideNeeds_lifted os started H enc)

end Go.Proofs.YtobkbgbkkiiloaaGreat
