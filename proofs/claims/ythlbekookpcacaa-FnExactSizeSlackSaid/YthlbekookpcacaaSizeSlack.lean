
/-
  For every list of texts and every list of whole numbers the law FnExactSizeSlack returns true, and both lists read behind the call as they read before. No condition.
-/
import Derived.Test.YthlbekookpcacaaSizY
import Derived.Test.YthlbekookpcacaaNumA
import Derived.Test.YthlbekookpcacaaArgs
import Derived.Test.YthlbekookpcacaaLaws
namespace Go.Proofs.Ythlbekookpcacaa
open Go.ChangeShapes Go.WideShapes Go.ChangeAt Go.RowKit

set_option maxHeartbeats 4000000 in
theorem sizeSlack_law (aP : Option Addr) (kP : Nat) (lP : List ByteArray) (aN : Option Addr) (kN : Nat) (lN : List Int) (T0 : List Int) (b1 : Bool) (w : World) (mP : lP.length ≤ maxLen) (zP : ∀ s ∈ lP, s.size ≤ maxLen) (cP : CellsAt w aP (lP.map Value.string)) (_mN : lN.length ≤ maxLen) (cN : CellsAt w aN (lN.map (Value.int .i64))) (hT0 : T0.length ≤ 1048576)
    (HS : lP.length ≤ 1048576 → (∀ s ∈ lP, s.size ≤ 1048576) → lN.length ≤ 1048576 → ∀ (aP : Option Addr) (kP : Nat) (aN : Option Addr) (kN : Nat) (W : World), CellsAt W aP (lP.map Value.string) → CellsAt W aN (lN.map (Value.int .i64)) → Calls Try.prog 27 #[.slice aP lP.length kP, .slice aN lN.length kN] W fun e w' => NumsRet W.heap.size T0 b1 e w' ∧ Below W.heap.size W w')
    (HI : lP.length ≤ 1048576 → (∀ s ∈ lP, s.size ≤ 1048576) → lN.length ≤ 1048576 → ∀ (aP : Option Addr) (kP : Nat) (aN : Option Addr) (kN : Nat) (W : World), CellsAt W aP (lP.map Value.string) → CellsAt W aN (lN.map (Value.int .i64)) → Calls Try.prog 29 #[.slice aP lP.length kP, .slice aN lN.length kN] W fun e w' => NumsRet W.heap.size T0 b1 e w' ∧ Below W.heap.size W w') :
    Calls Try.prog 8 #[.slice aP lP.length kP, .slice aN lN.length kN] w fun e w' => e = .returned (.bool true) ∧ Below w.heap.size w w' := by
  by_cases dN : lN.length ≤ 1048576
  · -- small
    have hdN : decide (1048576 < (lN.length : Int)) = false := by rw [decide_eq_false_iff_not]; omega
    obtain ⟨yP, hyP⟩ : ∃ y, szAll lP 1048576 = y := ⟨_, rfl⟩
    by_cases uP : yP < 0
    · have hd : decide (yP < 0) = true := decide_eq_true uP
      go_enter Try.func8, Try.ntmps8
      go_wp2_with fail
      refine (szStringS_any _ _ _ _ _ mP (by omega) (by omega) zP cP).mono ?_
      rw [hyP]; rintro e w1 ⟨rfl, rfl⟩
      go_wp2
      go_ret
      exact ⟨rfl, Below.refl _ _⟩
    · have hdP : decide (yP < 0) = false := decide_eq_false uP
      obtain ⟨leP, lnP, lsP⟩ := szAll_bound (l := lP) (n := 1048576) (by rw [hyP]; exact uP)
      rw [hyP] at leP
      have LP : lP.length ≤ 1048576 := by omega
      have SP : ∀ s ∈ lP, s.size ≤ 1048576 := fun s h => by have := lsP s h; omega
      have HS := Lib.hid (HS LP SP dN)
      have HI := Lib.hid (HI LP SP dN)
      clear lnP lsP
      have HT0 := Lib.hid (show T0.length ≤ maxLen by unfold maxLen; omega)
      have HE0 := Lib.hid (eqI_self T0)
      have HLP := Lib.hid (show lP.length ≤ maxLen by unfold maxLen; omega)
      have HXP := Lib.hid (eqS_self lP)
      have HLN := Lib.hid (show lN.length ≤ maxLen by unfold maxLen; omega)
      have HXN := Lib.hid (eqI_self lN)
      have hq0 : decide (((1 + T0.length : Nat) : Int) < 0) = false := by rw [decide_eq_false_iff_not]; omega
      have hk0 : decide (((1 + lP.length + lN.length : Nat) : Int) < 0) = false := by rw [decide_eq_false_iff_not]; omega
      have hB := Below.refl w.heap.size w
      go_enter Try.func8, Try.ntmps8
      go_wp2_with fail
      refine (szStringS_any _ _ _ _ _ mP (by omega) (by omega) zP cP).mono ?_
      rw [hyP]; rintro e w1 ⟨rfl, rfl⟩
      have c0P := cP
      have c0N := cN
      go_wp2_with fail
      refine (toStringS_any _ _ _ _ LP cP).mono ?_
      rintro e w1 ⟨g_yP, k_yP, rfl, o, hb⟩
      replace cP := cP.below hb
      replace cN := cN.below hb
      replace hB := below_step hB hB.size hb
      have o_yP := o; clear o
      clear hb
      go_wp2_with fail
      refine (toIntS_any _ _ _ _ dN cN).mono ?_
      rintro e w2 ⟨g_yN, k_yN, rfl, o, hb⟩
      have ap_yP_yN := apart_base o_yP o
      replace cP := cP.below hb
      replace cN := cN.below hb
      replace o_yP := ownsRow_below o_yP hb
      replace hB := below_step hB hB.size hb
      have o_yN := o; clear o
      clear hb
      go_wp2_with fail
      refine (HS.out _ _ _ _ _ (owns_cells o_yP) (owns_cells o_yN)).mono ?_
      rintro e w3 ⟨⟨wr0, wq0, rfl, ow0⟩, hb⟩
      have ap_yP_w0 := apart_base o_yP ow0
      have ap_yN_w0 := apart_base o_yN ow0
      replace cP := cP.below hb
      replace cN := cN.below hb
      replace o_yP := ownsRow_below o_yP hb
      replace o_yN := ownsRow_below o_yN hb
      replace hB := below_step hB hB.size hb
      have o_w0 := ow0; clear ow0
      clear hb
      clear o_yP
      clear ap_yP_w0
      clear ap_yP_yN
      clear o_yN
      clear ap_yN_w0
      have hbase_xP := hB.size
      go_wp2_with fail
      refine (toStringS_any _ _ _ _ LP cP).mono ?_
      rintro e w4 ⟨g_xP, k_xP, rfl, o, hb⟩
      have ap_w0_xP := apart_base o_w0 o
      replace cP := cP.below hb
      replace cN := cN.below hb
      replace o_w0 := ownsRow_below o_w0 hb
      replace hB := below_step hB hB.size hb
      have o_xP := o; clear o
      clear hb
      have hbase_xN := hB.size
      go_wp2_with fail
      refine (toIntS_any _ _ _ _ dN cN).mono ?_
      rintro e w5 ⟨g_xN, k_xN, rfl, o, hb⟩
      have ap_w0_xN := apart_base o_w0 o
      have ap_xP_xN := apart_base o_xP o
      replace cP := cP.below hb
      replace cN := cN.below hb
      replace o_w0 := ownsRow_below o_w0 hb
      replace o_xP := ownsRow_below o_xP hb
      replace hB := below_step hB hB.size hb
      have o_xN := o; clear o
      clear hb
      have hbase_g0 := hB.size
      go_wp2_with fail
      refine (HI.out _ _ _ _ _ (owns_cells o_xP) (owns_cells o_xN)).mono ?_
      rintro e w6 ⟨⟨gr0, gq0, rfl, og0⟩, hb⟩
      have ap_w0_g0 := apart_base o_w0 og0
      have ap_xP_g0 := apart_base o_xP og0
      have ap_xN_g0 := apart_base o_xN og0
      replace cP := cP.below hb
      replace cN := cN.below hb
      replace o_w0 := ownsRow_below o_w0 hb
      replace o_xP := ownsRow_below o_xP hb
      replace o_xN := ownsRow_below o_xN hb
      replace hB := below_step hB hB.size hb
      have o_g0 := og0; clear og0
      clear hb
      go_wp2_with fail
      refine (eqIntS_any _ _ _ _ _ _ T0 T0 _ rfl rfl HT0.out (owns_cells o_g0) (owns_cells o_w0)).mono ?_
      rw [HE0.out]; rintro e w7 ⟨rfl, hq⟩
      have hb := quiet_below hq; clear hq
      replace cP := cP.below hb
      replace cN := cN.below hb
      replace o_w0 := ownsRow_below o_w0 hb
      replace o_xP := ownsRow_below o_xP hb
      replace o_xN := ownsRow_below o_xN hb
      replace o_g0 := ownsRow_below o_g0 hb
      replace hB := below_step hB hB.size hb
      clear hb
      go_wp2_with fail
      refine (toStringS_any _ _ _ _ LP cP).mono ?_
      rintro e w8 ⟨g_zP, k_zP, rfl, o, hb⟩
      have ap_w0_zP := apart_base o_w0 o
      have ap_xP_zP := apart_base o_xP o
      have ap_xN_zP := apart_base o_xN o
      have ap_g0_zP := apart_base o_g0 o
      replace cP := cP.below hb
      replace cN := cN.below hb
      replace o_w0 := ownsRow_below o_w0 hb
      replace o_xP := ownsRow_below o_xP hb
      replace o_xN := ownsRow_below o_xN hb
      replace o_g0 := ownsRow_below o_g0 hb
      replace hB := below_step hB hB.size hb
      have o_zP := o; clear o
      clear hb
      go_wp2_with fail
      refine (eqStringS_any _ _ _ _ _ _ lP lP _ rfl rfl HLP.out (owns_cells o_xP) (owns_cells o_zP)).mono ?_
      rw [HXP.out]; rintro e w9 ⟨rfl, hq⟩
      have hb := quiet_below hq; clear hq
      replace cP := cP.below hb
      replace cN := cN.below hb
      replace o_w0 := ownsRow_below o_w0 hb
      replace o_xP := ownsRow_below o_xP hb
      replace o_xN := ownsRow_below o_xN hb
      replace o_g0 := ownsRow_below o_g0 hb
      replace o_zP := ownsRow_below o_zP hb
      replace hB := below_step hB hB.size hb
      clear hb
      clear o_zP
      clear ap_xN_zP
      clear ap_g0_zP
      clear ap_w0_zP
      clear ap_xP_zP
      go_wp2_with fail
      refine (toIntS_any _ _ _ _ dN cN).mono ?_
      rintro e w10 ⟨g_zN, k_zN, rfl, o, hb⟩
      have ap_w0_zN := apart_base o_w0 o
      have ap_xP_zN := apart_base o_xP o
      have ap_xN_zN := apart_base o_xN o
      have ap_g0_zN := apart_base o_g0 o
      replace cP := cP.below hb
      replace cN := cN.below hb
      replace o_w0 := ownsRow_below o_w0 hb
      replace o_xP := ownsRow_below o_xP hb
      replace o_xN := ownsRow_below o_xN hb
      replace o_g0 := ownsRow_below o_g0 hb
      replace hB := below_step hB hB.size hb
      have o_zN := o; clear o
      clear hb
      go_wp2_with fail
      refine (eqIntS_any _ _ _ _ _ _ lN lN _ rfl rfl HLN.out (owns_cells o_xN) (owns_cells o_zN)).mono ?_
      rw [HXN.out]; rintro e w11 ⟨rfl, hq⟩
      have hb := quiet_below hq; clear hq
      replace cP := cP.below hb
      replace cN := cN.below hb
      replace o_w0 := ownsRow_below o_w0 hb
      replace o_xP := ownsRow_below o_xP hb
      replace o_xN := ownsRow_below o_xN hb
      replace o_g0 := ownsRow_below o_g0 hb
      replace o_zN := ownsRow_below o_zN hb
      replace hB := below_step hB hB.size hb
      clear hb
      clear o_zN
      clear ap_g0_zN
      clear ap_xP_zN
      clear ap_w0_zN
      clear ap_xN_zN
      go_wp2_with fail
      refine (markStringS_any _ _ (1) _ lP _ (by omega) (by omega) (o_xP)).mono ?_
      rintro e w12 ⟨rfl, o, hg⟩
      have hB2 := below_mark hB o_xP (B := w.heap.size) hbase_xP hg hB.size
      replace cP := c0P.below hB2
      replace cN := c0N.below hB2
      replace o_w0 := owns_kept o_w0 hg ap_w0_xP
      replace o_xN := owns_kept o_xN hg ap_xP_xN.symm
      replace o_g0 := owns_kept o_g0 hg ap_xP_g0.symm
      replace o_xP := o; clear o
      replace hB := hB2; clear hB2 hg
      go_wp2_with fail
      refine (markIntS_any _ _ (1 + lP.length) _ lN _ (by omega) (by omega) (o_xN)).mono ?_
      rintro e w13 ⟨rfl, o, hg⟩
      have hB2 := below_mark hB o_xN (B := w.heap.size) hbase_xN hg hB.size
      replace cP := c0P.below hB2
      replace cN := c0N.below hB2
      replace o_w0 := owns_kept o_w0 hg ap_w0_xN
      replace o_xP := owns_kept o_xP hg ap_xP_xN
      replace o_g0 := owns_kept o_g0 hg ap_xN_g0.symm
      replace o_xN := o; clear o
      replace hB := hB2; clear hB2 hg
      clear o_xP
      clear ap_w0_xP
      clear ap_xP_g0
      clear ap_xP_xN
      clear o_xN
      clear ap_xN_g0
      clear ap_w0_xN
      go_wp2_with fail
      refine (eqIntS_any _ _ _ _ _ _ T0 T0 _ rfl rfl HT0.out (owns_cells o_g0) (owns_cells o_w0)).mono ?_
      rw [HE0.out]; rintro e w14 ⟨rfl, hq⟩
      have hb := quiet_below hq; clear hq
      replace cP := cP.below hb
      replace cN := cN.below hb
      replace o_w0 := ownsRow_below o_w0 hb
      replace o_g0 := ownsRow_below o_g0 hb
      replace hB := below_step hB hB.size hb
      clear hb
      go_wp2_with fail
      refine (markIntS_any _ _ (1) _ T0 _ (by omega) (by omega) (o_g0)).mono ?_
      rintro e w15 ⟨rfl, o, hg⟩
      have hB2 := below_mark hB o_g0 (B := w.heap.size) hbase_g0 hg hB.size
      replace cP := c0P.below hB2
      replace cN := c0N.below hB2
      replace o_w0 := owns_kept o_w0 hg ap_w0_g0
      replace o_g0 := o; clear o
      replace hB := hB2; clear hB2 hg
      go_wp2_with fail
      refine (heldIntS_any _ _ (1) T0.length _ (by omega) (by omega) (owns_cells o_g0)).mono ?_
      rintro e w16 ⟨rfl, hb⟩
      replace cP := cP.below hb
      replace cN := cN.below hb
      replace o_w0 := ownsRow_below o_w0 hb
      replace o_g0 := ownsRow_below o_g0 hb
      replace hB := below_step hB hB.size hb
      clear hb
      go_wp2_with fail
      refine (toStringS_any _ _ _ _ LP cP).mono ?_
      rintro e w17 ⟨g_yP, k_yP, rfl, o, hb⟩
      have ap_w0_yP := apart_base o_w0 o
      have ap_g0_yP := apart_base o_g0 o
      replace cP := cP.below hb
      replace cN := cN.below hb
      replace o_w0 := ownsRow_below o_w0 hb
      replace o_g0 := ownsRow_below o_g0 hb
      replace hB := below_step hB hB.size hb
      have o_yP := o; clear o
      clear hb
      go_wp2_with fail
      refine (toIntS_any _ _ _ _ dN cN).mono ?_
      rintro e w18 ⟨g_yN, k_yN, rfl, o, hb⟩
      have ap_w0_yN := apart_base o_w0 o
      have ap_g0_yN := apart_base o_g0 o
      have ap_yP_yN := apart_base o_yP o
      replace cP := cP.below hb
      replace cN := cN.below hb
      replace o_w0 := ownsRow_below o_w0 hb
      replace o_g0 := ownsRow_below o_g0 hb
      replace o_yP := ownsRow_below o_yP hb
      replace hB := below_step hB hB.size hb
      have o_yN := o; clear o
      clear hb
      go_wp2_with fail
      refine (HI.out _ _ _ _ _ (owns_cells o_yP) (owns_cells o_yN)).mono ?_
      rintro e w19 ⟨⟨hr0, hq0, rfl, oh0⟩, hb⟩
      have ap_w0_h0 := apart_base o_w0 oh0
      have ap_g0_h0 := apart_base o_g0 oh0
      have ap_yP_h0 := apart_base o_yP oh0
      have ap_yN_h0 := apart_base o_yN oh0
      replace cP := cP.below hb
      replace cN := cN.below hb
      replace o_w0 := ownsRow_below o_w0 hb
      replace o_g0 := ownsRow_below o_g0 hb
      replace o_yP := ownsRow_below o_yP hb
      replace o_yN := ownsRow_below o_yN hb
      replace hB := below_step hB hB.size hb
      have o_h0 := oh0; clear oh0
      clear hb
      clear o_yP
      clear ap_yP_h0
      clear ap_yP_yN
      clear ap_g0_yP
      clear ap_w0_yP
      clear o_yN
      clear ap_g0_yN
      clear ap_w0_yN
      clear ap_yN_h0
      go_wp2_with fail
      refine (eqIntS_any _ _ _ _ _ _ T0 T0 _ rfl rfl HT0.out (owns_cells o_h0) (owns_cells o_w0)).mono ?_
      rw [HE0.out]; rintro e w20 ⟨rfl, hq⟩
      have hb := quiet_below hq; clear hq
      replace cP := cP.below hb
      replace cN := cN.below hb
      replace o_w0 := ownsRow_below o_w0 hb
      replace o_g0 := ownsRow_below o_g0 hb
      replace o_h0 := ownsRow_below o_h0 hb
      replace hB := below_step hB hB.size hb
      clear hb
      go_wp2_with fail
      refine (heldIntS_any _ _ (1) T0.length _ (by omega) (by omega) (owns_cells o_g0)).mono ?_
      rintro e w21 ⟨rfl, hb⟩
      replace cP := cP.below hb
      replace cN := cN.below hb
      replace o_w0 := ownsRow_below o_w0 hb
      replace o_g0 := ownsRow_below o_g0 hb
      replace o_h0 := ownsRow_below o_h0 hb
      replace hB := below_step hB hB.size hb
      clear hb
      go_wp2
      go_ret
      exact ⟨rfl, hB⟩
  · have hdN : decide (1048576 < (lN.length : Int)) = true := by rw [decide_eq_true_eq]; omega
    go_enter Try.func8, Try.ntmps8
    go_wp2
    go_ret
    exact ⟨rfl, Below.refl _ _⟩


theorem sizeSlack_all (aP : Option Addr) (kP : Nat) (lP : List ByteArray) (aN : Option Addr) (kN : Nat) (lN : List Int) (w : World) (mP : lP.length ≤ maxLen) (zP : ∀ s ∈ lP, s.size ≤ maxLen) (cP : CellsAt w aP (lP.map Value.string)) (_mN : lN.length ≤ maxLen) (cN : CellsAt w aN (lN.map (Value.int .i64))) :
    Calls Try.prog 8 #[.slice aP lP.length kP, .slice aN lN.length kN] w fun e w' => e = .returned (.bool true) ∧ Below w.heap.size w w' :=
  sizeSlack_law aP kP lP aN kN lN (intsL (slackV lP lN)) (sizedB lP lN) w mP zP cP _mN cN (slackV_few lP lN) (fun hl hs hn _ _ _ _ _ hc hd => specSizeSlack_any _ _ _ _ _ _ _ hl hs hn hc hd) (fun hl hs hn _ _ _ _ _ hc hd => implSizeSlack_any _ _ _ _ _ _ _ hl hs hn hc hd)

set_option maxRecDepth 100000 in
theorem sizeSlack_lifted (os : Os) (started : os.Started) (H : Type) (enc : TypeId × Value → H) :
    ReturnsInHanded {} Try.checked os 8 .any (Rows.fnExactSizeSlackSpec.pre6 enc Try.prog Try.f8 Rows.fnExactSizeSlackRow.domain false) (Rows.fnExactSizeSlackSpec.post enc Try.prog Try.f8 false true false false) := by
  refine returnsInHanded_of_change (C := Try.checked) Try.own started (by kernel_rfl) Try.func8
    (ChangeSpec.witness6 (enc := enc) (C := Try.checked) false ⟨#[], #[.slice none 0 0, .slice none 0 0], []⟩ 8 (by kernel_rfl) (by kernel_rfl) (by kernel_rfl) (by kernel_rfl)) ?_
  intro W base args ds gs before hval0 hW _ _
  have hval : ∀ (j : Nat) t v, Try.f8.params[j]? = some t → args[j]? = some v → Value.okWide Try.prog W .any base t v := hval0
  have hW' := hW
  obtain ⟨p, q, hA0, hV, rfl, _, _⟩ := hW
  have hA : DataW.TrodAll enc Try.prog W 0 (fun _ => true) true Try.f8.params.toList args.toList ds p := hA0
  rw [Try.params8] at hA hval
  obtain ⟨v0, v1, d0, d1, p0, p1, rfl, rfl, rfl, h0, h1⟩ := trodAll_two hA
  obtain ⟨rfl, rfl⟩ := trodVars_none hV
  obtain ⟨aP, eP, kP, rfl⟩ := okWide_slice Try.underlying22 (hval 0 22 v0 rfl rfl)
  obtain ⟨aN, eN, kN, rfl⟩ := okWide_slice Try.underlying31 (hval 1 31 v1 rfl rfl)
  clear hA0 hval0
  simp only [List.append_nil] at hW'
  have hlt0 : ∀ x ∈ p0, x.block < W.heap.size := fun x hx => by simpa using hW'.lt x (by simp [hx])
  have hlt1 : ∀ x ∈ p1, x.block < W.heap.size := fun x hx => by simpa using hW'.lt x (by simp [hx])
  obtain ⟨lP, rfl, mP, zP, cP⟩ := open_texts h0
  obtain ⟨lN, rfl, mN, cN⟩ := open_numbers h1
  refine (sizeSlack_all aP kP lP aN kN lN W mP zP cP mN cN).mono fun e W' ⟨he, hb⟩ => ?_
  subst he
  refine ⟨_, rfl, _, _, _, [], _, [], hW', trodAll_mk1 (shut_bool Try.underlying4 _), trodAll_mk2 (Below.trod Try.laidOut (by kernel_rfl) (of_decide_eq_true (by kernel_rfl)) h0 hb hlt0) (Below.trod Try.laidOut (by kernel_rfl) (of_decide_eq_true (by kernel_rfl)) h1 hb hlt1), rfl, hb.frame _, fun h => by cases h⟩

theorem sizeSlack_holds : Rows.FnExactSizeSlackSaid :=
  OpenClaim.holds_of_wide 8 Try.f8 rfl rfl rfl rfl rfl rfl rfl ⟨rfl, rfl, rfl, rfl, rfl⟩ rfl rfl rfl rfl rfl (by kernel_rfl) Try.func8 (by kernel_rfl)
    (of_decide_eq_true (by kernel_rfl)) (by unfold Func.isWrapper; first | (rw [if_pos (by decide +kernel)]; kernel_rfl) | (rw [if_neg (by decide +kernel)]; exact ⟨rfl, rfl⟩))
    (fun os started H enc _ => sizeSlack_lifted os started H enc)

end Go.Proofs.Ythlbekookpcacaa
